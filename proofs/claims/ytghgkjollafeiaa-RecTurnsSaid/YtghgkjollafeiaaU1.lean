/-
  The reference reads plans, statements and accounts: walked.
-/
import Derived.Test.YtghgkjollafeiaaRd
import Derived.Deep.QuietTactic
import Derived.Deep.CutBlock
import Derived.Test.YtghgkjollafeiaaPar
import Derived.Test.YtghgkjollafeiaaPR
import Derived.Deep.MidRow
import Derived.Test.YtghgkjollafeiaaPE
import Derived.Test.YtghgkjollafeiaaRW
import Derived.Maps.AppendAt
import Derived.Test.YtghgkjollafeiaaPN
import Derived.Test.YtghgkjollafeiaaPp
namespace Go.Proofs.Ytghgkjollafeiaa
open Go.RowKit

/-- A reader in its block: its bytes, what is left of them, its fault. -/
structure Rdr (w : World) (r : Nat) (a : Option Addr) (cap : Nat) (B : List Nat) (t : Sx) : Prop where
  c0 : w.cell? ⟨r, 0, none⟩ = some (.slice a B.length cap)
  p : ∃ p : Nat, w.cell? ⟨r, 1, none⟩ = some (.int .i64 (p : Nat)) ∧ p ≤ B.length ∧ (t.e = 0 → t.l = B.drop p)
  c2 : w.cell? ⟨r, 2, none⟩ = some (.int .i64 (t.e : Nat))
  f1 : w.frozen? ⟨r, 1, none⟩ = false
  f2 : w.frozen? ⟨r, 2, none⟩ = false
  hB : BytesAt w a B
  ne : ∀ x, B ≠ [] → a = some x → x.block ≠ r
  hl : B.length ≤ 1000000
  cap : B.length ≤ cap
  lt : ∀ x ∈ B, x < 256
theorem Rdr.at {w : World} {r : Nat} {a : Option Addr} {cap : Nat} {B : List Nat} {t : Sx} (h : Rdr w r a cap B t) : r < w.heap.size := lt_of_cell h.c0
/-- The reader's block has turned, no other one. -/
theorem Rdr.drewN {w : World} {r : Nat} {a : Option Addr} {cap : Nat} {B : List Nat} {t : Sx} (h : Rdr w r a cap B t) (n : Nat) : Rdr (w.drewN n) r a cap B t :=
  ⟨h.c0, h.p, h.c2, h.f1, h.f2, h.hB.keep (fun _ _ _ => rfl), h.ne, h.hl, h.cap, h.lt⟩
theorem Rdr.keep {w w' : World} {r : Nat} {a : Option Addr} {cap : Nat} {B : List Nat} {t : Sx} (h : Rdr w r a cap B t) (hk : ∀ x, x < w.heap.size → w'.heap[x]? = w.heap[x]?) : Rdr w' r a cap B t :=
  have hr := hk r h.at
  have hc : ∀ o, w'.cell? ⟨r, o, none⟩ = w.cell? ⟨r, o, none⟩ := fun o => World.cell?_of_block (a := ⟨r, o, none⟩) hr
  have hf : ∀ o, w'.frozen? ⟨r, o, none⟩ = w.frozen? ⟨r, o, none⟩ := fun o => World.frozen?_of_block (a := ⟨r, o, none⟩) hr
  ⟨(hc 0).trans h.c0, by obtain ⟨p, h1, h2⟩ := h.p; exact ⟨p, (hc 1).trans h1, h2⟩, (hc 2).trans h.c2, (hf 1).trans h.f1, (hf 2).trans h.f2, h.hB.keep (fun x hx e => hk _ (h.hB.lt x hx e)), h.ne, h.hl, h.cap, h.lt⟩
theorem Rdr.as {w : World} {r : Nat} {a : Option Addr} {cap : Nat} {B : List Nat} {t t' : Sx} (h : Rdr w r a cap B t) (he : t'.e = t.e) (hl : t.e = 0 → t'.l = t.l) : Rdr w r a cap B t' :=
  ⟨h.c0, by obtain ⟨p, h1, h2, h3⟩ := h.p; exact ⟨p, h1, h2, fun e => (hl (by omega)).trans (h3 (by omega))⟩, by rw [he]; exact h.c2, h.f1, h.f2, h.hB, h.ne, h.hl, h.cap, h.lt⟩
theorem set_other {w : World} {b o o' : Nat} (v : Value) (h : o' ≠ o) : (w.setCell ⟨b, o, none⟩ v).cell? ⟨b, o', none⟩ = w.cell? ⟨b, o', none⟩ := World.cell?_setCell_other _ _ _ _ (fun e => h (congrArg Addr.off e).symm)
theorem Rdr.setE {w : World} {r : Nat} {a : Option Addr} {cap : Nat} {B : List Nat} {t : Sx} (h : Rdr w r a cap B t) (e : Nat) (he : e ≠ 0) (l : List Nat) : Rdr (w.setCell ⟨r, 2, none⟩ (.int .i64 (e : Nat))) r a cap B ⟨l, e⟩ := by
  obtain ⟨p, h1, h2, _⟩ := h.p
  refine ⟨(set_other _ (by omega)).trans h.c0, ⟨p, (set_other _ (by omega)).trans h1, h2, fun k => absurd k he⟩, World.cell?_setCell_same _ _ _ h.c2, ?_, ?_, h.hB.keep (fun x hx k => Below.heap_setCell w ⟨r, 2, none⟩ _ _ (h.ne x hx k)), h.ne, h.hl, h.cap, h.lt⟩
  · rw [World.frozen?_setCell]; exact h.f1
  · rw [World.frozen?_setCell]; exact h.f2
theorem Rdr.setP {w : World} {r : Nat} {a : Option Addr} {cap : Nat} {B : List Nat} {t : Sx} (h : Rdr w r a cap B t) (p : Nat) (hp : p ≤ B.length) (he : t.e = 0) : Rdr (w.setCell ⟨r, 1, none⟩ (.int .i64 (p : Nat))) r a cap B ⟨B.drop p, 0⟩ := by
  obtain ⟨p0, h1, _, _⟩ := h.p
  refine ⟨(set_other _ (by omega)).trans h.c0, ⟨p, World.cell?_setCell_same _ _ _ h1, hp, fun _ => rfl⟩, ?_, ?_, ?_, h.hB.keep (fun x hx k => Below.heap_setCell w ⟨r, 1, none⟩ _ _ (h.ne x hx k)), h.ne, h.hl, h.cap, h.lt⟩
  · rw [set_other _ (by omega), h.c2, he]
  · rw [World.frozen?_setCell]; exact h.f1
  · rw [World.frozen?_setCell]; exact h.f2
theorem Turn.drewNr {S : List Nat} {u w : World} (h : Turn S u w) (n : Nat) : Turn S u (w.drewN n) := ⟨h.os, h.tape, h.output, h.size, h.block⟩

/-- What U8 answers. -/
def U8P (w : World) (r : Nat) (a : Option Addr) (cap : Nat) (B : List Nat) (t : Sx) (e : Ending) (w' : World) : Prop := e = .returned (.int .i64 ((countS .pr t 0).2 : Nat)) ∧ Rdr w' r a cap B (countS .pr t 0).1 ∧ Turn [r] w w'

set_option maxRecDepth 100000 in
set_option maxHeartbeats 3200000 in
theorem ru8 {w : World} {r : Nat} {a : Option Addr} {cap : Nat} {B : List Nat} {t : Sx} (h : Rdr w r a cap B t) : Calls Try.prog 65 #[.pointer (some ⟨r, 0, none⟩)] w fun e w' => U8P w r a cap B t e w' := by
  have H := hide h
  obtain ⟨p, h1, h2, h3⟩ := h.p
  have h0 := h.c0
  have hc2 := h.c2
  have f1 := h.f1
  have f2 := h.f2
  have hl := h.hl
  by_cases he : t.e = 0
  · have hd := h3 he
    have HE := hide he
    rw [he] at hc2
    by_cases hp : B.length ≤ p
    · have HT : Hid (countS .pr t 0 = (⟨t.l, 8⟩, 0)) := by
        show ((takeS t 1).1, (takeS t 1).2.headD 0) = _
        have hz : t.l.length < 1 := by rw [hd, List.length_drop]; omega
        unfold takeS
        rw [if_neg (by omega), if_pos hz]
        rfl
      have HR := hide (h.setE 8 (by omega) t.l)
      clear h3 h he hd
      go_enter Try.func65, Try.ntmps65
      go_upto_region 1 with fail
      go_quiet (fail)
      go_wp2_with fail
      go_ret
      rw [U8P, HT.out]
      exact ⟨rfl, HR.out.drewN _, ((Turn.refl [r] w).setCell (by simp) 2 _).drewNr _⟩
    · have hpl : p < B.length := by omega
      have HT : Hid (countS .pr t 0 = (⟨B.drop (p + 1), 0⟩, B[p])) := by
        show ((takeS t 1).1, (takeS t 1).2.headD 0) = _
        have hz : ¬ t.l.length < 1 := by rw [hd, List.length_drop]; omega
        unfold takeS
        rw [if_neg (by omega), if_neg hz, hd, List.drop_drop, ← List.getElem_cons_drop hpl]
        rfl
      obtain ⟨ab, ao, rfl, hcp⟩ := h.hB.at hpl
      have hne : ab ≠ r := h.ne _ (fun e => by rw [e] at hpl; cases hpl) rfl
      have hcast : ((p + 1 : Nat) : Int) = (p : Int) + 1 := by omega
      have hR0 := fun n => (h.drewN n).setP (p + 1) (by omega) HE.out
      rw [hcast] at hR0
      have HR := hide hR0
      clear hcast hR0
      have HX := hide (h.lt _ (List.getElem_mem hpl))
      have hcap := h.cap
      generalize B[p] = x at *
      clear h3 h he hd
      go_enter Try.func65, Try.ntmps65
      go_upto_region 1 with fail
      go_quiet (fail)
      go_upto_region 6 with fail
      have hR := HR.out nq
      have g0 := hR.c0
      have g1 : ((w.drewN nq).setCell ⟨r, 1, none⟩ (.int .i64 ((p : Int) + 1))).cell? ⟨r, 1, none⟩ = some (.int .i64 ((p : Int) + 1)) := World.cell?_setCell_same _ _ _ h1
      have gp : ((w.drewN nq).setCell ⟨r, 1, none⟩ (.int .i64 ((p : Int) + 1))).cell? ⟨ab, ao + p, none⟩ = some (.int .u8 (x : Nat)) := (World.cell?_of_block (a := ⟨ab, ao + p, none⟩) (Below.heap_setCell (w.drewN nq) ⟨r, 1, none⟩ _ ab hne)).trans hcp
      have hwp : IntKind.i64.wrap (p : Int) = (p : Int) := by rw [IntKind.wrap_i64]; omega
      have hwx : IntKind.i64.wrap (x : Int) = (x : Int) := by have := HX.out; rw [IntKind.wrap_i64]; omega
      have HR2 := hide hR
      have HT2 : Hid (Turn [r] w ((w.drewN nq).setCell ⟨r, 1, none⟩ (.int .i64 ((p : Int) + 1)))) := ((Turn.refl [r] w).drewNr nq).setCell (by simp) 1 _
      clear hR HR h0 h1 hc2 f1 f2 hcp
      generalize (w.drewN nq).setCell ⟨r, 1, none⟩ (.int .i64 ((p : Int) + 1)) = w2 at *
      go_quiet (fail)
      go_wp2_with fail
      go_ret
      rw [U8P, HT.out]
      exact ⟨rfl, HR2.out.drewN _, HT2.out.drewNr _⟩
  · have HT : Hid (countS .pr t 0 = (t, 0)) := by
      show ((takeS t 1).1, (takeS t 1).2.headD 0) = _
      unfold takeS
      rw [if_pos he]
      rfl
    have hne : ¬ ((t.e : Nat) : Int) = 0 := by omega
    clear h3 h
    go_enter Try.func65, Try.ntmps65
    go_upto_region 1 with fail
    go_quiet (fail)
    go_wp2_with fail
    go_ret
    rw [U8P, HT.out]
    exact ⟨rfl, H.out.drewN _, (Turn.refl [r] w).drewNr _⟩

/-- Where eight bytes are read one by one. -/
def Mid (t : Sx) (j : Nat) (s : Sx) (V : Nat) : Prop := (t.e = 0 ∧ j ≤ t.l.length → s = ⟨t.l.drop j, 0⟩ ∧ V = beNum (t.l.take j)) ∧ (¬ (t.e = 0 ∧ j ≤ t.l.length) → s.e = if t.e = 0 then 8 else t.e)
theorem takeS_fault {s : Sx} (h : s.e ≠ 0) (n : Nat) : takeS s n = (s, List.replicate n 0) := by unfold takeS; rw [if_pos h]
theorem Mid.next {t s : Sx} {j V : Nat} (h : Mid t j s V) : Mid t (j + 1) (countS .pr s 0).1 (V * 256 + (countS .pr s 0).2) := by
  show Mid t (j + 1) (takeS s 1).1 (V * 256 + (takeS s 1).2.headD 0)
  by_cases h0 : t.e = 0 ∧ j ≤ t.l.length
  · obtain ⟨rfl, rfl⟩ := h.1 h0
    by_cases h1 : j + 1 ≤ t.l.length
    · have ht : takeS ⟨t.l.drop j, 0⟩ 1 = (⟨t.l.drop (j + 1), 0⟩, [t.l[j]]) := by
        unfold takeS
        rw [if_neg (by simp), if_neg (by simp; omega)]
        show ((⟨(t.l.drop j).drop 1, 0⟩ : Sx), (t.l.drop j).take 1) = _
        rw [List.drop_drop, ← List.getElem_cons_drop (show j < t.l.length by omega)]
        rfl
      rw [ht]
      refine ⟨fun _ => ⟨rfl, ?_⟩, fun k => absurd ⟨h0.1, h1⟩ k⟩
      rw [List.take_succ_eq_append_getElem (by omega), beNum_snoc]
      rfl
    · have ht : takeS ⟨t.l.drop j, 0⟩ 1 = (⟨t.l.drop j, 8⟩, [0]) := by
        unfold takeS
        rw [if_neg (by simp), if_pos (by simp; omega)]
        rfl
      rw [ht]
      exact ⟨fun k => absurd k.2 h1, fun _ => by rw [if_pos h0.1]⟩
  · have hs := h.2 h0
    have hne : s.e ≠ 0 := by rw [hs]; split <;> omega
    rw [takeS_fault hne]
    exact ⟨fun k => absurd ⟨k.1, by omega⟩ h0, fun _ => hs⟩
theorem beNum_zeros : ∀ n, beNum (List.replicate n 0) = 0
  | 0 => rfl
  | n + 1 => by rw [List.replicate_succ', beNum_snoc, beNum_zeros n]
theorem Mid.done {t s : Sx} {V : Nat} (h : Mid t 8 s V) : s.e = (takeS t 8).1.e ∧ (s.e = 0 → s = (takeS t 8).1 ∧ V = beNum (takeS t 8).2) ∧ (s.e ≠ 0 → i64of (beNum (takeS t 8).2) = 0) := by
  by_cases h0 : t.e = 0 ∧ 8 ≤ t.l.length
  · obtain ⟨rfl, rfl⟩ := h.1 h0
    have ht : takeS t 8 = (⟨t.l.drop 8, 0⟩, t.l.take 8) := by unfold takeS; rw [if_neg (by omega), if_neg (by omega)]
    rw [ht]
    exact ⟨rfl, fun _ => ⟨rfl, rfl⟩, fun k => absurd rfl k⟩
  · have hs := h.2 h0
    have hne : s.e ≠ 0 := by rw [hs]; split <;> omega
    by_cases he : t.e = 0
    · have ht : takeS t 8 = (⟨t.l, 8⟩, List.replicate 8 0) := by unfold takeS; rw [if_neg (by omega), if_pos (by omega)]
      rw [ht]
      rw [if_pos he] at hs
      exact ⟨hs, fun k => absurd k hne, fun _ => by rw [beNum_zeros]; rfl⟩
    · rw [takeS_fault he]
      rw [if_neg he] at hs
      exact ⟨hs, fun k => absurd k hne, fun _ => by rw [beNum_zeros]; rfl⟩
theorem Rdr.by {w : World} {r : Nat} {a : Option Addr} {cap : Nat} {B : List Nat} {t : Sx} (h : Rdr w r a cap B t) : (countS .pr t 0).2 < 256 := by
  show (takeS t 1).2.headD 0 < 256
  by_cases he : t.e = 0
  · obtain ⟨p, _, _, h3⟩ := h.p
    refine headD_lt (takeS_lt t 1 (fun x hx => ?_))
    rw [h3 he] at hx
    exact h.lt x (List.mem_of_mem_drop hx)
  · rw [takeS_fault he]
    simp

/-- What Int answers. -/
def IntP (w : World) (r : Nat) (a : Option Addr) (cap : Nat) (B : List Nat) (t : Sx) (e : Ending) (w' : World) : Prop := e = .returned (.int .i64 (numS .pr t 0).2) ∧ Rdr w' r a cap B (numS .pr t 0).1 ∧ Turn [r] w w'

set_option maxRecDepth 100000 in
set_option maxHeartbeats 3200000 in
theorem ri64 {w : World} {r : Nat} {a : Option Addr} {cap : Nat} {B : List Nat} {t : Sx} (h : Rdr w r a cap B t) : Calls Try.prog 64 #[.pointer (some ⟨r, 0, none⟩)] w fun e w' => IntP w r a cap B t e w' := by
  have H := hide h
  have HM : Hid (Mid t 0 t 0) := ⟨fun k => ⟨by rw [List.drop_zero]; obtain ⟨l, e⟩ := t; obtain rfl : e = 0 := k.1; rfl, rfl⟩, fun k => by rw [if_neg (fun e => k ⟨e, Nat.zero_le _⟩)]⟩
  clear h
  go_enter Try.func64, Try.ntmps64
  go_wp2_with fail
  go_loopw [3, 4] (fun v i wr => ∃ (j V : Nat) (s : Sx), j ≤ 8 ∧ i = .int .i64 (j : Nat) ∧ v = .int .u64 (V : Nat) ∧ Hid (V < 256 ^ j) ∧ Hid (Mid t j s V) ∧ Hid (Rdr wr r a cap B s) ∧ Hid (Turn [r] w wr)) (fun _ i _ => 8 - (intOf i).toNat)
  case atStart => exact ⟨0, 0, t, by omega, rfl, rfl, show 0 < 256 ^ 0 by decide, HM, H, Turn.refl [r] w⟩
  case round =>
    obtain ⟨j, V, s, hj, rfl, rfl, HV, HMj, HR, HT⟩ := hrel
    by_cases hlt : j < 8
    · have hy := HV.out
      have hp : 256 ^ j ≤ 256 ^ 7 := Nat.pow_le_pow_right (by omega) (by omega)
      have hz := HR.out.by
      have HN := hide HMj.out.next
      have HC := hide (ru8 HR.out)
      have hP1 : 256 ^ (j + 1) = 256 ^ j * 256 := Nat.pow_succ ..
      have HV2 : Hid (V * 256 + (countS .pr s 0).2 < 256 ^ (j + 1)) := by show _ < _; rw [hP1]; omega
      have hor := u64_or_nat (V * 256) (countS .pr s 0).2 (by omega) (by omega)
      rw [shl_or V (countS .pr s 0).2 hz] at hor
      have hor2 : bits .or .u64 ((V : Int) * 256) ((countS .pr s 0).2 : Int) = ((V * 256 + (countS .pr s 0).2 : Nat) : Int) := by
        rw [← hor]
        congr 1
      have hy2 : V * 256 + (countS .pr s 0).2 < 18446744073709551616 := by omega
      have hV : V < 72057594037927936 := by omega
      clear hor hP1 hp hy
      unfold U8P at HC
      generalize countS .pr s 0 = cs at *
      obtain ⟨s2, z⟩ := cs
      dsimp only at hz HN HC HV2 hor2 hy2
      go_wp2_with fail
      refine HC.out.mono ?_
      rintro e w2 ⟨rfl, hR2, hT2⟩
      have HR2 := hide hR2
      have HT2 := hide (HT.out.trans hT2)
      clear hR2 hT2
      go_wp2_with fail
      go_roundw
      case rel => exact ⟨j + 1, V * 256 + z, s2, hlt, by go_num, by go_num, HV2, HN, HR2, HT2⟩
      case measure => simp [intOf]; omega
    · obtain rfl : j = 8 := by omega
      obtain ⟨m1, m2, m3⟩ := HMj.out.done
      have hc2 := HR.out.c2
      by_cases he : s.e = 0
      · obtain ⟨rfl, rfl⟩ := m2 he
        have hi64 : IntKind.i64.wrap (beNum (takeS t 8).2 : Int) = i64of (beNum (takeS t 8).2) := by
          have := HV.out
          rw [IntKind.wrap_i64]
          unfold i64of
          split <;> omega
        have HQ : Hid (∀ e', e' = Ending.returned (.int .i64 (i64of (beNum (takeS t 8).2))) → IntP w r a cap B t e' wr) := fun e' h => ⟨h, HR.out, HT.out⟩
        rw [he] at hc2
        clear m1 m2 m3 he
        generalize i64of (beNum (takeS t 8).2) = z at *
        generalize beNum (takeS t 8).2 = y at *
        go_wp2_with fail
        go_ret
        exact HQ.out _ rfl
      · have hne : ¬ ((s.e : Nat) : Int) = 0 := by omega
        have HQ : Hid (∀ e', e' = Ending.returned (.int .i64 0) → IntP w r a cap B t e' wr) := fun e' h => ⟨by rw [h]; show _ = Ending.returned (.int .i64 (i64of (beNum (takeS t 8).2))); rw [m3 he], HR.out.as m1.symm (fun k => absurd k he), HT.out⟩
        clear m1 m2 m3
        go_wp2_with fail
        go_ret
        exact HQ.out _ rfl
end Go.Proofs.Ytghgkjollafeiaa

/-
  The reference's reader: a text, the end.
-/
namespace Go.Proofs.Ytghgkjollafeiaa
open Go.RowKit

/-- Where a row from p on lies. -/
def midA (a : Option Addr) (c p : Nat) : Option Addr := if c = p then a else a.map (·.add p)
theorem slice_mid (a : Option Addr) (n c p k : Nat) (w : World) (hk : p + k ≤ c) : (Instr.slice 31 (.slice a n c) (some (.int .i64 (p : Nat))) (some (.int .i64 ((p : Int) + (k : Int)))) none).run Try.prog w = .ok (.slice (midA a c p) k (c - p)) w := by
  rw [run_slice_lh w 31 a n c (by kernel_rfl) .i64 .i64 p ((p : Int) + (k : Int)) (by omega) (by omega) (by omega)]
  have hs : (sizeOf (Try.prog.elem 31)).run Try.prog w = .ok 1 w := by go_simp
  rw [hs]
  have e : ((p : Int) + (k : Int)).toNat = p + k := by omega
  simp only [Result.andThen, sliced, Int.toNat_natCast, e, midA, Nat.mul_one, Nat.add_sub_cancel_left]
theorem midA_at {w : World} {a : Option Addr} {c p k : Nat} {B : List Nat} (h : BytesAt w a B) (hc : B.length ≤ c) (hk : p + k ≤ B.length) : BytesAt w (midA a c p) ((B.drop p).take k) := by
  unfold midA
  split
  · refine .inl ?_
    have : B.drop p = [] := List.drop_of_length_le (by omega)
    rw [this]
    simp
  · rcases h with rfl | ⟨b, off, rfl, h⟩
    · exact .inl (by simp)
    · refine .inr ⟨b, off + p, ?_, fun i hi => ?_⟩
      · simp only [Option.map_some, Addr.add_mid]
      · rw [List.length_take, List.length_drop] at hi
        have := h (p + i) (by omega)
        rw [Nat.add_assoc, this]
        congr 3
        rw [List.getD_eq_getElem?_getD, List.getD_eq_getElem?_getD, List.getElem?_take, if_pos (by omega), List.getElem?_drop]

/-- What Text answers. -/
def TxtP (w : World) (r : Nat) (a : Option Addr) (cap : Nat) (B : List Nat) (t : Sx) (e : Ending) (w' : World) : Prop := ∃ nm : ByteArray, e = .returned (.string nm) ∧ Rdr w' r a cap B (textS .pr t ByteArray.empty).1 ∧ ((textS .pr t ByteArray.empty).1.e = 0 → nm = (textS .pr t ByteArray.empty).2) ∧ Turn [r] w w'

set_option maxRecDepth 100000 in
set_option maxHeartbeats 3200000 in
theorem rtxt {w : World} {r : Nat} {a : Option Addr} {cap : Nat} {B : List Nat} {t : Sx} (h : Rdr w r a cap B t) : Calls Try.prog 63 #[.pointer (some ⟨r, 0, none⟩)] w fun e w' => TxtP w r a cap B t e w' := by
  have HC := hide (ru8 h)
  have hby := h.by
  have hS : textS .pr t ByteArray.empty = ((takeS (countS .pr t 0).1 (countS .pr t 0).2).1, textOf (takeS (countS .pr t 0).1 (countS .pr t 0).2).2) := rfl
  unfold U8P at HC
  unfold TxtP
  rw [hS]
  clear hS h
  generalize countS .pr t 0 = cs at *
  obtain ⟨s, k⟩ := cs
  dsimp only at HC hby ⊢
  go_enter Try.func63, Try.ntmps63
  go_wp2_with fail
  refine HC.out.mono ?_
  rintro e w1 ⟨rfl, hR, hT⟩
  have HT := hide hT
  have HR := hide hR
  obtain ⟨p, h1, h2, h3⟩ := hR.p
  have h0 := hR.c0
  have hc2 := hR.c2
  have f1 := hR.f1
  have f2 := hR.f2
  have hl := hR.hl
  have hcap := hR.cap
  have hwd : IntKind.i64.wrap ((B.length : Int) - (p : Int)) = (B.length : Int) - (p : Int) := by rw [IntKind.wrap_i64]; omega
  clear HC hT
  by_cases he : s.e = 0
  · have hd := h3 he
    have HE := hide he
    rw [he] at hc2
    by_cases hp : B.length < p + k
    · have HTk : Hid (takeS s k = (⟨s.l, 8⟩, List.replicate k 0)) := by
        show _ = _
        have hz : s.l.length < k := by rw [hd, List.length_drop]; omega
        unfold takeS
        rw [if_neg (by omega), if_pos hz]
      have HRn := hide (fun n => (hR.drewN n).setE 8 (by omega) s.l)
      have hcmp : ((B.length : Int) - (p : Int) < (k : Int)) := by omega
      clear h3 he hd hR
      go_upto_region 2 with fail
      go_quiet (fail)
      go_wp2_with fail
      go_ret
      refine ⟨_, rfl, ?_, ?_, ?_⟩
      · rw [HTk.out]; exact HRn.out _
      · rw [HTk.out]; exact fun k => by cases k
      · exact (HT.out.drewNr _).setCell (by simp) 2 _
    · have HTk : Hid (takeS s k = (⟨B.drop (p + k), 0⟩, (B.drop p).take k)) := by
        show _ = _
        have hz : ¬ s.l.length < k := by rw [hd, List.length_drop]; omega
        unfold takeS
        rw [if_neg (by omega), if_neg hz, hd, List.drop_drop]
      have hcmp : ¬ ((B.length : Int) - (p : Int) < (k : Int)) := by omega
      have hwk : IntKind.i64.wrap ((p : Int) + (k : Int)) = (p : Int) + (k : Int) := by rw [IntKind.wrap_i64]; omega
      clear h3 he hd hR
      go_upto_region 2 with fail
      go_quiet (fail)
      go_upto_region 6 with fail
      have hR2 := HR.out.drewN nq
      have HT2 := hide (HT.out.drewNr nq)
      have h1' : (w1.drewN nq).cell? ⟨r, 1, none⟩ = some (.int .i64 (p : Nat)) := h1
      clear h0 h1 hc2 f1 f2 HR HT
      generalize w1.drewN nq = w2 at *
      have g0 := hR2.c0
      have hcast : ((p + k : Nat) : Int) = (p : Int) + (k : Int) := by omega
      have hR0 := fun n => (hR2.drewN n).setP (p + k) (by omega) HE.out
      rw [hcast] at hR0
      have HRn := hide hR0
      have hsl := fun w' => slice_mid a B.length cap p k w' (by omega)
      have hBm := midA_at hR2.hB hcap (show p + k ≤ B.length by omega)
      have hln : ((B.drop p).take k).length = k := by rw [List.length_take, List.length_drop]; omega
      have hcv := fun n => text_at (hBm.keep (w' := w2.drewN n) (fun _ _ _ => rfl)) k (cap - p) hln
      have hf1 := hR2.f1
      clear hcast hR0 hBm hln hR2
      generalize midA a cap p = ma at *
      generalize hx : textOf ((B.drop p).take k) = tx at *
      have HX := hide hx
      clear hx
      go_quiet (fail)
      go_wp2_with fail
      go_ret
      refine ⟨tx, rfl, ?_, ?_, ?_⟩
      · rw [HTk.out]; exact HRn.out _
      · rw [HTk.out]; exact fun _ => HX.out.symm
      · exact (HT2.out.drewNr _).setCell (by simp) 1 _
  · have HTk : Hid (takeS s k = (s, List.replicate k 0)) := takeS_fault he k
    have hne : ¬ ((s.e : Nat) : Int) = 0 := by omega
    have HE := hide he
    clear h3 hR
    go_upto_region 2 with fail
    go_quiet (fail)
    go_wp2_with fail
    go_ret
    refine ⟨_, rfl, ?_, ?_, HT.out.drewNr _⟩
    · rw [HTk.out]; exact HR.out.drewN _
    · rw [HTk.out]; exact fun k => absurd k HE.out

/-- What End answers. -/
def EndP (w : World) (r : Nat) (a : Option Addr) (cap : Nat) (B : List Nat) (t : Sx) (e : Ending) (w' : World) : Prop := e = .returned (.int .i64 (endS t : Nat)) ∧ Rdr w' r a cap B t ∧ ∃ n, w' = w.drewN n

set_option maxRecDepth 100000 in
set_option maxHeartbeats 3200000 in
theorem rend {w : World} {r : Nat} {a : Option Addr} {cap : Nat} {B : List Nat} {t : Sx} (h : Rdr w r a cap B t) : Calls Try.prog 48 #[.pointer (some ⟨r, 0, none⟩)] w fun e w' => EndP w r a cap B t e w' := by
  have H := hide h
  obtain ⟨p, h1, h2, h3⟩ := h.p
  have h0 := h.c0
  have hc2 := h.c2
  have hl := h.hl
  by_cases he : t.e = 0
  · have hd := h3 he
    have HE := hide he
    rw [he] at hc2
    by_cases hp : p < B.length
    · have HT : Hid (endS t = 9) := by
        show _ = _
        unfold endS
        rw [if_neg (fun k => by rw [hd] at k; have := congrArg List.length k; rw [List.length_drop, List.length_nil] at this; omega)]
        unfold refuseS
        rw [if_pos he]
      clear h3 h he hd
      go_enter Try.func48, Try.ntmps48
      go_upto_region 1 with fail
      go_quiet (fail)
      go_wp2_with fail
      go_ret
      rw [EndP, HT.out]
      exact ⟨rfl, H.out.drewN _, _, rfl⟩
    · have HT : Hid (endS t = 0) := by
        show _ = _
        unfold endS
        rw [if_pos (by rw [hd]; exact List.drop_of_length_le (by omega))]
        exact he
      clear h3 h he hd
      go_enter Try.func48, Try.ntmps48
      go_upto_region 1 with fail
      go_quiet (fail)
      go_wp2_with fail
      go_ret
      rw [EndP, HT.out]
      exact ⟨rfl, H.out.drewN _, _, rfl⟩
  · have HT : Hid (endS t = t.e) := by
      show _ = _
      unfold endS
      split
      · rfl
      · unfold refuseS
        rw [if_neg he]
    have hne : ¬ ((t.e : Nat) : Int) = 0 := by omega
    clear h3 h
    go_enter Try.func48, Try.ntmps48
    go_upto_region 1 with fail
    go_quiet (fail)
    go_wp2_with fail
    go_ret
    rw [EndP, HT.out]
    exact ⟨rfl, H.out.drewN _, _, rfl⟩
end Go.Proofs.Ytghgkjollafeiaa

/-
  The reference's reader: structs that are made field by field; plans and statements.
-/
namespace Go.Proofs.Ytghgkjollafeiaa
open Go.RowKit

/-- A type of so many cells, kept as a row. -/
def Sz (ty n : Nat) : Prop := (Try.prog.info? ty).map (·.size) = some n ∧ ∃ d, Try.prog.underlying ty = some d ∧ d.isRow = true
theorem sz23 : Sz 23 10 := ⟨by kernel_rfl, .struct (Try.prog.fieldsOf 23), by kernel_rfl, rfl⟩
theorem sz40 : Sz 40 9 := ⟨by kernel_rfl, .struct (Try.prog.fieldsOf 40), by kernel_rfl, rfl⟩
theorem sz67 : Sz 67 13 := ⟨by kernel_rfl, .struct (Try.prog.fieldsOf 67), by kernel_rfl, rfl⟩
theorem store_sz {ops : Array Oper} {rest : List Oper} {dst : Option Tmp} {ty : TypeId} {pos : String} {after : Array Edge} {a : Act} {w : World} {Q : Exit → Act → World → Prop} (T n : Nat) (hT : Sz T n) (x y : Tmp) (b off : Nat) (cs : List Value) (hl : cs.length = n) (h1 : ∀ v ∈ cs, v.oneCell' = true)
    (hx : a.eval (.tmp x) = .pointer (some ⟨b, off, none⟩)) (hy : a.eval (.tmp y) = .agg cs.toArray) (ht : w.there b off n)
    (h : wpList Try.prog ops Q rest (a.put dst undef) (w.setCells b off cs)) : wpList Try.prog ops Q (⟨dst, .store T (.tmp x) (.tmp y), ty, pos, after, none⟩ :: rest) a w :=
  wpList_store_mid rfl T (.tmp x) (.tmp y) rfl b off cs.toArray hx hy (by rw [List.size_toArray, hl]; exact ht) (by rw [hT.1, List.size_toArray, hl]) (all_oneCell_toArray h1) h
theorem load_sz {ops : Array Oper} {rest : List Oper} {dst : Option Tmp} {ty : TypeId} {pos : String} {after : Array Edge} {a : Act} {w : World} {Q : Exit → Act → World → Prop} (T n : Nat) (hT : Sz T n) (x : Tmp) (b off : Nat) (cs : List Value) (hl : cs.length = n)
    (hx : a.eval (.tmp x) = .pointer (some ⟨b, off, none⟩)) (hr : w.rangeAt b off cs)
    (h : wpList Try.prog ops Q rest (a.put dst (.agg cs.toArray)) w) : wpList Try.prog ops Q (⟨dst, .load T (.tmp x), ty, pos, after, none⟩ :: rest) a w := by
  obtain ⟨h0, d, h1, h2⟩ := hT
  exact wpList_load_mid rfl T (.tmp x) rfl b off hx cs d hr h1 h2 (by rw [h0, hl]) h
theorem results_sz {fn : Func} {i T n : Nat} (hT : Sz T n) (h : fn.results = #[.cell i T]) {tmps : Array Value} {w : World} {g : Nat} {cs : List Value} (hl : cs.length = n) (h4 : tmps.getD i undef = .pointer (some ⟨g, 0, none⟩)) (hr : w.rangeAt g 0 cs) :
    (results fn tmps).run Try.prog w = .ok (.agg cs.toArray) w := by
  have h4' : tmps[i]?.getD undef = .pointer (some ⟨g, 0, none⟩) := by simpa using h4
  obtain ⟨h0, d, k1, k2⟩ := hT
  have hv : (loadVar T ⟨g, 0, none⟩).run Try.prog w = .ok (.agg cs.toArray) w := run_loadVar_mid w g 0 _ cs d hr k1 k2 (by rw [h0, hl])
  simp [results, h, h4', asAddr, hv]

/-- A reader, and a struct that is made in a block of the call's own. -/
structure Rs (w0 w : World) (r : Nat) (a : Option Addr) (cap : Nat) (B : List Nat) (t : Sx) (q : Nat) (cs : List Value) : Prop where
  rd : Rdr w r a cap B t
  fl : w.rangeAt q 0 cs
  th : w.there q 0 cs.length
  tn : Turn [r] w0 w
  q0 : w0.heap.size ≤ q
  ql : q < w.heap.size
  rl : r < w0.heap.size
  ab : ∀ x, B ≠ [] → a = some x → x.block < w0.heap.size
theorem Rs.call {w0 w w' : World} {r : Nat} {a : Option Addr} {cap : Nat} {B : List Nat} {t t' : Sx} {q : Nat} {cs : List Value} (h : Rs w0 w r a cap B t q cs) (hT : Turn [r] w w') (hR : Rdr w' r a cap B t') : Rs w0 w' r a cap B t' q cs :=
  have hq : q ≠ r := by have := h.q0; have := h.rl; omega
  have hb := hT.block q h.ql (by simp [hq])
  ⟨hR, fun j v hj => (World.cell?_of_block (a := ⟨q, 0 + j, none⟩) hb).trans (h.fl j v hj), fun j hj => by
    rw [World.cell?_of_block (a := ⟨q, 0 + j, none⟩) hb, World.frozen?_of_block (a := ⟨q, 0 + j, none⟩) hb]
    exact h.th j hj, h.tn.trans hT, h.q0, Nat.lt_of_lt_of_le h.ql hT.size, h.rl, h.ab⟩
theorem rdr_far {w w' : World} {r : Nat} {a : Option Addr} {cap : Nat} {B : List Nat} {t : Sx} (h : Rdr w r a cap B t) (hr : w'.heap[r]? = w.heap[r]?) (hB : ∀ x, B ≠ [] → a = some x → w'.heap[x.block]? = w.heap[x.block]?) : Rdr w' r a cap B t :=
  have hc : ∀ o, w'.cell? ⟨r, o, none⟩ = w.cell? ⟨r, o, none⟩ := fun o => World.cell?_of_block (a := ⟨r, o, none⟩) hr
  have hf : ∀ o, w'.frozen? ⟨r, o, none⟩ = w.frozen? ⟨r, o, none⟩ := fun o => World.frozen?_of_block (a := ⟨r, o, none⟩) hr
  ⟨(hc 0).trans h.c0, by obtain ⟨p, h1, h2⟩ := h.p; exact ⟨p, (hc 1).trans h1, h2⟩, (hc 2).trans h.c2, (hf 1).trans h.f1, (hf 2).trans h.f2, h.hB.keep hB, h.ne, h.hl, h.cap, h.lt⟩
theorem set_split {α : Type} (l : List α) (i : Nat) (v : α) (h : i < l.length) : l.set i v = l.take i ++ [v] ++ l.drop (i + 1) := by
  rw [List.set_eq_take_append_cons_drop, if_pos h]
  simp
theorem range_puts {w : World} {q o : Nat} {cs vs : List Value} (h : w.rangeAt q 0 cs) (ht : w.there q 0 cs.length) (hl : o + vs.length ≤ cs.length) : (w.setCells q o vs).rangeAt q 0 (cs.take o ++ vs ++ cs.drop (o + vs.length)) := by
  have e : cs = cs.take o ++ ((cs.drop o).take vs.length ++ cs.drop (o + vs.length)) := by
    rw [← List.drop_drop, List.take_append_drop, List.take_append_drop]
  have h' := h
  rw [e] at h'
  have l1 : (cs.take o).length = o := by rw [List.length_take]; omega
  have l2 : ((cs.drop o).take vs.length).length = vs.length := by rw [List.length_take, List.length_drop]; omega
  have r1 := rangeAt_left h'
  have r2 := rangeAt_right (rangeAt_right h')
  rw [l1, l2, Nat.zero_add] at r2
  rw [List.append_assoc]
  refine app_rangeAt (World.rangeAt_setCells_apart r1 q o vs (.inr (.inl (by rw [l1]; omega)))) ?_
  rw [l1, Nat.zero_add]
  refine app_rangeAt (World.rangeAt_setCells_same w q o vs (fun j hj => ?_)) (World.rangeAt_setCells_apart r2 q o vs (.inr (.inr (by omega))))
  have := ht (o + j) (by omega)
  rw [Nat.zero_add] at this
  exact this
theorem Rs.puts {w0 w : World} {r : Nat} {a : Option Addr} {cap : Nat} {B : List Nat} {t : Sx} {q : Nat} {cs : List Value} (h : Rs w0 w r a cap B t q cs) (o : Nat) (vs : List Value) (hl : o + vs.length ≤ cs.length) : Rs w0 (w.setCells q o vs) r a cap B t q (cs.take o ++ vs ++ cs.drop (o + vs.length)) := by
  have hq : q ≠ r := by have := h.q0; have := h.rl; omega
  have hn : (cs.take o ++ vs ++ cs.drop (o + vs.length)).length = cs.length := by
    rw [List.length_append, List.length_append, List.length_take, List.length_drop]
    omega
  refine ⟨rdr_far h.rd (heap_setCellsN q r (fun e => hq e.symm) vs o w) (fun x hx e => heap_setCellsN q x.block (by have := h.ab x hx e; have := h.q0; omega) vs o w), range_puts h.fl h.th hl, by rw [hn]; exact World.there_setCells h.th _ _ _, ?_, h.q0, by rw [size_setCellsN]; exact h.ql, h.rl, h.ab⟩
  have e := rest_setCellsN q vs o w
  exact ⟨e.1.trans h.tn.os, e.2.1.trans h.tn.tape, e.2.2.trans h.tn.output, by rw [size_setCellsN]; exact h.tn.size, fun k hk hS => (heap_setCellsN q k (by have := h.q0; omega) vs o w).trans (h.tn.block k hk hS)⟩
theorem Rs.put {w0 w : World} {r : Nat} {a : Option Addr} {cap : Nat} {B : List Nat} {t : Sx} {q : Nat} {cs : List Value} (h : Rs w0 w r a cap B t q cs) (i : Nat) (v : Value) (hi : i < cs.length) : Rs w0 (w.setCell ⟨q, i, none⟩ v) r a cap B t q (cs.set i v) := by
  have := h.puts i [v] (by rw [List.length_singleton]; omega)
  rw [List.length_singleton, ← set_split cs i v hi] at this
  exact this
theorem Rs.cell {w0 w : World} {r : Nat} {a : Option Addr} {cap : Nat} {B : List Nat} {t : Sx} {q : Nat} {cs : List Value} (h : Rs w0 w r a cap B t q cs) {i : Nat} {v : Value} (hi : cs[i]? = some v) : w.cell? ⟨q, i, none⟩ = some v := by
  have := h.fl i v hi
  rw [Nat.zero_add] at this
  exact this
theorem Rs.fz {w0 w : World} {r : Nat} {a : Option Addr} {cap : Nat} {B : List Nat} {t : Sx} {q : Nat} {cs : List Value} (h : Rs w0 w r a cap B t q cs) {i : Nat} (hi : i < cs.length) : w.frozen? ⟨q, i, none⟩ = false := by
  have := (h.th i hi).2
  rw [Nat.zero_add] at this
  exact this
/-- A struct was begun. -/
theorem Rs.new {w0 w : World} {r : Nat} {a : Option Addr} {cap : Nat} {B : List Nat} {t : Sx} (hR : Rdr w r a cap B t) (hT : Turn [r] w0 w) (rl : r < w0.heap.size) (ab : ∀ x, B ≠ [] → a = some x → x.block < w0.heap.size) (Z : Array Value) (ty : TypeId) : Rs w0 (w.alloc (.cells Z ty)) r a cap B t w.heap.size Z.toList := by
  have hb : (w.alloc (.cells Z ty)).heap[w.heap.size]? = some (.cells Z ty (0, 0)) := Array.getElem?_push_size
  refine ⟨hR.keep (fun x hx => Below.heap_alloc w _ x hx), fun j v hj => ?_, fun j hj => ⟨?_, frozen_of_row _ _ _ _ _ hb⟩, hT.alloc _, hT.size, by simp, rl, ab⟩
  · rw [cell_of_row _ _ _ _ _ _ hb, Nat.zero_add, ← Array.getElem?_toList]
    exact hj
  · have hj' : j < Z.size := by rw [Array.length_toList] at hj; exact hj
    rw [cell_of_row _ _ _ _ _ _ hb, Nat.zero_add, Array.getElem?_eq_getElem hj']
    rfl
theorem Rdr.base {w : World} {r : Nat} {a : Option Addr} {cap : Nat} {B : List Nat} {t : Sx} (h : Rdr w r a cap B t) (o : Obj) : Rdr (w.alloc o) r a cap B t ∧ r < (w.alloc o).heap.size ∧ ∀ x, B ≠ [] → a = some x → x.block < (w.alloc o).heap.size :=
  ⟨h.keep (fun x hx => Below.heap_alloc w _ x hx), by have := h.at; simp; omega, fun x hx e => by have := h.hB.lt x hx e; simp; omega⟩
theorem there_new2 (w : World) (Z : Array Value) (ty : TypeId) : (w.alloc (.cells Z ty)).there w.heap.size 0 Z.size := fun j hj => by
  have hb : (w.alloc (.cells Z ty)).heap[w.heap.size]? = some (.cells Z ty (0, 0)) := Array.getElem?_push_size
  refine ⟨?_, frozen_of_row _ _ _ _ _ hb⟩
  rw [cell_of_row _ _ _ _ _ _ hb, Nat.zero_add, Array.getElem?_eq_getElem hj]
  rfl
theorem Turn.from_alloc {r : Nat} {w w' : World} {o : Obj} (h : Turn [r] (w.alloc o) w') : Turn [r] w w' :=
  ⟨h.os, h.tape, h.output, by have := h.size; simp at this; omega, fun k hk hS => (h.block k (by simp; omega) hS).trans (Below.heap_alloc w _ k hk)⟩

/-- What rdPlan answers. -/
def rdPlanP (w : World) (r : Nat) (a : Option Addr) (cap : Nat) (B : List Nat) (t : Sx) (e : Ending) (w' : World) : Prop := ∃ (nm : ByteArray), e = .returned (.agg (Value.string nm :: intC (tiS .pr t ByteArray.empty (List.replicate 9 0)).2.2).toArray) ∧ Rdr w' r a cap B (tiS .pr t ByteArray.empty (List.replicate 9 0)).1 ∧ ((textS .pr t ByteArray.empty).1.e = 0 → nm = (tiS .pr t ByteArray.empty (List.replicate 9 0)).2.1) ∧ Turn [r] w w'

set_option maxRecDepth 100000 in
set_option maxHeartbeats 6400000 in
theorem rdPlan {w : World} {r : Nat} {a : Option Addr} {cap : Nat} {B : List Nat} {t : Sx} (h : Rdr w r a cap B t) : Calls Try.prog 49 #[.pointer (some ⟨r, 0, none⟩)] w fun e w' => rdPlanP w r a cap B t e w' := by
  obtain ⟨hR0, hrl, hab⟩ := h.base (.cells #[.string { data := #[] }, .int .i64 0, .int .i64 0, .int .i64 0, .int .i64 0, .int .i64 0, .int .i64 0, .int .i64 0, .int .i64 0, .int .i64 0] 23)
  have HTh := hide (there_new2 w #[.string { data := #[] }, .int .i64 0, .int .i64 0, .int .i64 0, .int .i64 0, .int .i64 0, .int .i64 0, .int .i64 0, .int .i64 0, .int .i64 0] 23)
  have hs0 : (w.alloc (.cells #[.string { data := #[] }, .int .i64 0, .int .i64 0, .int .i64 0, .int .i64 0, .int .i64 0, .int .i64 0, .int .i64 0, .int .i64 0, .int .i64 0] 23)).heap.size = w.heap.size + 1 := by simp
  have HS0 := hide hs0
  have HAb := hide hab
  have HAb2 := hide (fun x hx e => h.hB.lt x hx e)
  have HC0 := hide (rtxt hR0)
  have HR0 := hide hR0
  have HFin : Hid (∀ w', Turn [r] (w.alloc (.cells #[.string { data := #[] }, .int .i64 0, .int .i64 0, .int .i64 0, .int .i64 0, .int .i64 0, .int .i64 0, .int .i64 0, .int .i64 0, .int .i64 0] 23)) w' → Turn [r] w w') := fun w' hT => hT.from_alloc
  have hrw : w.heap.size ≠ r := by have := h.at; omega
  unfold TxtP at HC0
  obtain ⟨T0, hT0⟩ : ∃ T, textS .pr t ByteArray.empty = T := ⟨_, rfl⟩
  obtain ⟨t0, nm0⟩ := T0
  rw [hT0] at HC0
  obtain ⟨⟨t1, x1⟩, hT1⟩ : ∃ T, numS .pr t0 0 = T := ⟨_, rfl⟩
  obtain ⟨⟨t2, x2⟩, hT2⟩ : ∃ T, numS .pr t1 0 = T := ⟨_, rfl⟩
  obtain ⟨⟨t3, x3⟩, hT3⟩ : ∃ T, numS .pr t2 0 = T := ⟨_, rfl⟩
  obtain ⟨⟨t4, x4⟩, hT4⟩ : ∃ T, numS .pr t3 0 = T := ⟨_, rfl⟩
  obtain ⟨⟨t5, x5⟩, hT5⟩ : ∃ T, numS .pr t4 0 = T := ⟨_, rfl⟩
  obtain ⟨⟨t6, x6⟩, hT6⟩ : ∃ T, numS .pr t5 0 = T := ⟨_, rfl⟩
  obtain ⟨⟨t7, x7⟩, hT7⟩ : ∃ T, numS .pr t6 0 = T := ⟨_, rfl⟩
  obtain ⟨⟨t8, x8⟩, hT8⟩ : ∃ T, numS .pr t7 0 = T := ⟨_, rfl⟩
  obtain ⟨⟨t9, x9⟩, hT9⟩ : ∃ T, numS .pr t8 0 = T := ⟨_, rfl⟩
  have hti : tiS .pr t ByteArray.empty (List.replicate 9 0) = (t9, nm0, [x1, x2, x3, x4, x5, x6, x7, x8, x9]) := by
    unfold tiS
    rw [hT0]
    show ((numsS .pr t0 [0, 0, 0, 0, 0, 0, 0, 0, 0]).1, nm0, (numsS .pr t0 [0, 0, 0, 0, 0, 0, 0, 0, 0]).2) = _
    simp only [numsS, hT1, hT2, hT3, hT4, hT5, hT6, hT7, hT8, hT9]
  unfold rdPlanP
  rw [hti, hT0]
  clear hti hab h hs0 hR0 hT0
  dsimp only at HC0 ⊢
  have HT1 := hide hT1
  have HT2 := hide hT2
  have HT3 := hide hT3
  have HT4 := hide hT4
  have HT5 := hide hT5
  have HT6 := hide hT6
  have HT7 := hide hT7
  have HT8 := hide hT8
  have HT9 := hide hT9
  clear hT1 hT2 hT3 hT4 hT5 hT6 hT7 hT8 hT9
  generalize hq2 : w.heap.size = q2 at *
  have HQ2 := hide hq2
  go_enter Try.func49, Try.ntmps49
  go_wp2_with fail
  clear hq2
  generalize w.alloc (.cells #[.string { data := #[] }, .int .i64 0, .int .i64 0, .int .i64 0, .int .i64 0, .int .i64 0, .int .i64 0, .int .i64 0, .int .i64 0, .int .i64 0] 23) = w0 at *
  refine HC0.out.mono ?_
  rintro e w1 ⟨nm, rfl, hR, hnm, hT⟩
  have HNm := hide hnm
  have HS1 := hide (Rs.new hR hT hrl HAb.out #[Value.string nm, Value.int .i64 0, Value.int .i64 0, Value.int .i64 0, Value.int .i64 0, Value.int .i64 0, Value.int .i64 0, Value.int .i64 0, Value.int .i64 0, Value.int .i64 0] 23)
  clear hR hnm hT
  go_wp2_with fail
  generalize hq : w1.heap.size = q at *
  generalize w1.alloc (.cells #[Value.string nm, Value.int .i64 0, Value.int .i64 0, Value.int .i64 0, Value.int .i64 0, Value.int .i64 0, Value.int .i64 0, Value.int .i64 0, Value.int .i64 0, Value.int .i64 0] 23) = v1 at *
  clear hq
  refine (ri64 HS1.out.rd).mono ?_
  rintro e u1 ⟨rfl, hR, hT⟩
  rw [HT1.out] at hR ⊢
  have hK1 := HS1.out.call hT hR
  have c1 := hK1.cell (i := 1) rfl
  have f1 := hK1.fz (i := 1) (by simp)
  have HS2 := hide (hK1.put 1 (.int .i64 x1) (by simp))
  clear hR hT hK1
  dsimp only
  go_wp2_with fail
  generalize u1.setCell ⟨q, 1, none⟩ (.int .i64 x1) = v2 at *
  clear c1 f1 HS1
  refine (ri64 HS2.out.rd).mono ?_
  rintro e u2 ⟨rfl, hR, hT⟩
  rw [HT2.out] at hR ⊢
  have hK2 := HS2.out.call hT hR
  have c2 := hK2.cell (i := 2) rfl
  have f2 := hK2.fz (i := 2) (by simp)
  have HS3 := hide (hK2.put 2 (.int .i64 x2) (by simp))
  clear hR hT hK2
  dsimp only
  go_wp2_with fail
  generalize u2.setCell ⟨q, 2, none⟩ (.int .i64 x2) = v3 at *
  clear c2 f2 HS2
  refine (ri64 HS3.out.rd).mono ?_
  rintro e u3 ⟨rfl, hR, hT⟩
  rw [HT3.out] at hR ⊢
  have hK3 := HS3.out.call hT hR
  have c3 := hK3.cell (i := 3) rfl
  have f3 := hK3.fz (i := 3) (by simp)
  have HS4 := hide (hK3.put 3 (.int .i64 x3) (by simp))
  clear hR hT hK3
  dsimp only
  go_wp2_with fail
  generalize u3.setCell ⟨q, 3, none⟩ (.int .i64 x3) = v4 at *
  clear c3 f3 HS3
  refine (ri64 HS4.out.rd).mono ?_
  rintro e u4 ⟨rfl, hR, hT⟩
  rw [HT4.out] at hR ⊢
  have hK4 := HS4.out.call hT hR
  have c4 := hK4.cell (i := 4) rfl
  have f4 := hK4.fz (i := 4) (by simp)
  have HS5 := hide (hK4.put 4 (.int .i64 x4) (by simp))
  clear hR hT hK4
  dsimp only
  go_wp2_with fail
  generalize u4.setCell ⟨q, 4, none⟩ (.int .i64 x4) = v5 at *
  clear c4 f4 HS4
  refine (ri64 HS5.out.rd).mono ?_
  rintro e u5 ⟨rfl, hR, hT⟩
  rw [HT5.out] at hR ⊢
  have hK5 := HS5.out.call hT hR
  have c5 := hK5.cell (i := 5) rfl
  have f5 := hK5.fz (i := 5) (by simp)
  have HS6 := hide (hK5.put 5 (.int .i64 x5) (by simp))
  clear hR hT hK5
  dsimp only
  go_wp2_with fail
  generalize u5.setCell ⟨q, 5, none⟩ (.int .i64 x5) = v6 at *
  clear c5 f5 HS5
  refine (ri64 HS6.out.rd).mono ?_
  rintro e u6 ⟨rfl, hR, hT⟩
  rw [HT6.out] at hR ⊢
  have hK6 := HS6.out.call hT hR
  have c6 := hK6.cell (i := 6) rfl
  have f6 := hK6.fz (i := 6) (by simp)
  have HS7 := hide (hK6.put 6 (.int .i64 x6) (by simp))
  clear hR hT hK6
  dsimp only
  go_wp2_with fail
  generalize u6.setCell ⟨q, 6, none⟩ (.int .i64 x6) = v7 at *
  clear c6 f6 HS6
  refine (ri64 HS7.out.rd).mono ?_
  rintro e u7 ⟨rfl, hR, hT⟩
  rw [HT7.out] at hR ⊢
  have hK7 := HS7.out.call hT hR
  have c7 := hK7.cell (i := 7) rfl
  have f7 := hK7.fz (i := 7) (by simp)
  have HS8 := hide (hK7.put 7 (.int .i64 x7) (by simp))
  clear hR hT hK7
  dsimp only
  go_wp2_with fail
  generalize u7.setCell ⟨q, 7, none⟩ (.int .i64 x7) = v8 at *
  clear c7 f7 HS7
  refine (ri64 HS8.out.rd).mono ?_
  rintro e u8 ⟨rfl, hR, hT⟩
  rw [HT8.out] at hR ⊢
  have hK8 := HS8.out.call hT hR
  have c8 := hK8.cell (i := 8) rfl
  have f8 := hK8.fz (i := 8) (by simp)
  have HS9 := hide (hK8.put 8 (.int .i64 x8) (by simp))
  clear hR hT hK8
  dsimp only
  go_wp2_with fail
  generalize u8.setCell ⟨q, 8, none⟩ (.int .i64 x8) = v9 at *
  clear c8 f8 HS8
  refine (ri64 HS9.out.rd).mono ?_
  rintro e u9 ⟨rfl, hR, hT⟩
  rw [HT9.out] at hR ⊢
  have hK9 := HS9.out.call hT hR
  have c9 := hK9.cell (i := 9) rfl
  have f9 := hK9.fz (i := 9) (by simp)
  have HS10 := hide (hK9.put 9 (.int .i64 x9) (by simp))
  clear hR hT hK9
  dsimp only
  go_upto_region 11 with fail
  generalize u9.setCell ⟨q, 9, none⟩ (.int .i64 x9) = v10 at *
  clear c9 f9 HS9
  have hl : (Value.string nm :: intC [x1, x2, x3, x4, x5, x6, x7, x8, x9]).length = 10 := rfl
  have HF : Hid (v10.rangeAt q 0 (Value.string nm :: intC [x1, x2, x3, x4, x5, x6, x7, x8, x9])) := HS10.out.fl
  have HTq : Hid (v10.there q2 0 10) := fun j hj => by
    have hb := HS10.out.tn.block q2 (by rw [HS0.out]; omega) (by simp [hrw])
    rw [World.cell?_of_block (a := ⟨q2, 0 + j, none⟩) hb, World.frozen?_of_block (a := ⟨q2, 0 + j, none⟩) hb]
    exact HTh.out j hj
  have HOne : Hid (∀ v ∈ (Value.string nm :: intC [x1, x2, x3, x4, x5, x6, x7, x8, x9]), v.oneCell' = true) := fun v hv => by
    rcases List.mem_cons.1 hv with rfl | hv
    · rfl
    · obtain ⟨x, _, rfl⟩ := List.mem_map.1 hv
      rfl
  have HR6 := hide (World.rangeAt_setCells_same v10 q2 0 (Value.string nm :: intC [x1, x2, x3, x4, x5, x6, x7, x8, x9]) (by rw [hl]; exact HTq.out))
  have HRd : Hid (Rdr (v10.setCells q2 0 (Value.string nm :: intC [x1, x2, x3, x4, x5, x6, x7, x8, x9])) r a cap B t9) := rdr_far HS10.out.rd (heap_setCellsN q2 r (fun e => hrw e.symm) _ _ _) (fun x hx e => heap_setCellsN q2 x.block (fun k => by have := HAb2.out x hx e; omega) _ _ _)
  have HTn : Hid (Turn [r] w (v10.setCells q2 0 (Value.string nm :: intC [x1, x2, x3, x4, x5, x6, x7, x8, x9]))) := by
    have h1 := HFin.out _ HS10.out.tn
    have e := rest_setCellsN q2 (Value.string nm :: intC [x1, x2, x3, x4, x5, x6, x7, x8, x9]) 0 v10
    exact ⟨e.1.trans h1.os, e.2.1.trans h1.tape, e.2.2.trans h1.output, by rw [size_setCellsN]; exact h1.size, fun k hk hS => (heap_setCellsN q2 k (by have := HQ2.out; omega) _ _ _).trans (h1.block k hk hS)⟩
  generalize hcs : (Value.string nm :: intC [x1, x2, x3, x4, x5, x6, x7, x8, x9]) = cs at HF hl HOne HR6 HRd HTn
  have HCs := hide hcs
  clear hcs
  go_wp2_with (first | ((with_reducible refine load_sz 23 10 sz23 _ q 0 cs hl ?_ HF.out ?_); rfl) | ((with_reducible refine store_sz 23 10 sz23 _ _ q2 0 cs hl HOne.out ?_ ?_ HTq.out ?_); rfl; rfl) | fail)
  refine bodyPost_ret (v := .agg cs.toArray) (results_sz sz23 Try.results49 hl rfl HR6.out) rfl ⟨nm, ?_, HRd.out, HNm.out, HTn.out⟩
  rw [HCs.out]


/-- What rdStm answers. -/
def rdStmP (w : World) (r : Nat) (a : Option Addr) (cap : Nat) (B : List Nat) (t : Sx) (e : Ending) (w' : World) : Prop := ∃ (nm : ByteArray), e = .returned (.agg (Value.string nm :: intC (tiS .pr t ByteArray.empty (List.replicate 8 0)).2.2).toArray) ∧ Rdr w' r a cap B (tiS .pr t ByteArray.empty (List.replicate 8 0)).1 ∧ ((textS .pr t ByteArray.empty).1.e = 0 → nm = (tiS .pr t ByteArray.empty (List.replicate 8 0)).2.1) ∧ Turn [r] w w'

set_option maxRecDepth 100000 in
set_option maxHeartbeats 6400000 in
theorem rdStm {w : World} {r : Nat} {a : Option Addr} {cap : Nat} {B : List Nat} {t : Sx} (h : Rdr w r a cap B t) : Calls Try.prog 50 #[.pointer (some ⟨r, 0, none⟩)] w fun e w' => rdStmP w r a cap B t e w' := by
  obtain ⟨hR0, hrl, hab⟩ := h.base (.cells #[.string { data := #[] }, .int .i64 0, .int .i64 0, .int .i64 0, .int .i64 0, .int .i64 0, .int .i64 0, .int .i64 0, .int .i64 0] 40)
  have HTh := hide (there_new2 w #[.string { data := #[] }, .int .i64 0, .int .i64 0, .int .i64 0, .int .i64 0, .int .i64 0, .int .i64 0, .int .i64 0, .int .i64 0] 40)
  have hs0 : (w.alloc (.cells #[.string { data := #[] }, .int .i64 0, .int .i64 0, .int .i64 0, .int .i64 0, .int .i64 0, .int .i64 0, .int .i64 0, .int .i64 0] 40)).heap.size = w.heap.size + 1 := by simp
  have HS0 := hide hs0
  have HAb := hide hab
  have HAb2 := hide (fun x hx e => h.hB.lt x hx e)
  have HC0 := hide (rtxt hR0)
  have HR0 := hide hR0
  have HFin : Hid (∀ w', Turn [r] (w.alloc (.cells #[.string { data := #[] }, .int .i64 0, .int .i64 0, .int .i64 0, .int .i64 0, .int .i64 0, .int .i64 0, .int .i64 0, .int .i64 0] 40)) w' → Turn [r] w w') := fun w' hT => hT.from_alloc
  have hrw : w.heap.size ≠ r := by have := h.at; omega
  unfold TxtP at HC0
  obtain ⟨T0, hT0⟩ : ∃ T, textS .pr t ByteArray.empty = T := ⟨_, rfl⟩
  obtain ⟨t0, nm0⟩ := T0
  rw [hT0] at HC0
  obtain ⟨⟨t1, x1⟩, hT1⟩ : ∃ T, numS .pr t0 0 = T := ⟨_, rfl⟩
  obtain ⟨⟨t2, x2⟩, hT2⟩ : ∃ T, numS .pr t1 0 = T := ⟨_, rfl⟩
  obtain ⟨⟨t3, x3⟩, hT3⟩ : ∃ T, numS .pr t2 0 = T := ⟨_, rfl⟩
  obtain ⟨⟨t4, x4⟩, hT4⟩ : ∃ T, numS .pr t3 0 = T := ⟨_, rfl⟩
  obtain ⟨⟨t5, x5⟩, hT5⟩ : ∃ T, numS .pr t4 0 = T := ⟨_, rfl⟩
  obtain ⟨⟨t6, x6⟩, hT6⟩ : ∃ T, numS .pr t5 0 = T := ⟨_, rfl⟩
  obtain ⟨⟨t7, x7⟩, hT7⟩ : ∃ T, numS .pr t6 0 = T := ⟨_, rfl⟩
  obtain ⟨⟨t8, x8⟩, hT8⟩ : ∃ T, numS .pr t7 0 = T := ⟨_, rfl⟩
  have hti : tiS .pr t ByteArray.empty (List.replicate 8 0) = (t8, nm0, [x1, x2, x3, x4, x5, x6, x7, x8]) := by
    unfold tiS
    rw [hT0]
    show ((numsS .pr t0 [0, 0, 0, 0, 0, 0, 0, 0]).1, nm0, (numsS .pr t0 [0, 0, 0, 0, 0, 0, 0, 0]).2) = _
    simp only [numsS, hT1, hT2, hT3, hT4, hT5, hT6, hT7, hT8]
  unfold rdStmP
  rw [hti, hT0]
  clear hti hab h hs0 hR0 hT0
  dsimp only at HC0 ⊢
  have HT1 := hide hT1
  have HT2 := hide hT2
  have HT3 := hide hT3
  have HT4 := hide hT4
  have HT5 := hide hT5
  have HT6 := hide hT6
  have HT7 := hide hT7
  have HT8 := hide hT8
  clear hT1 hT2 hT3 hT4 hT5 hT6 hT7 hT8
  generalize hq2 : w.heap.size = q2 at *
  have HQ2 := hide hq2
  go_enter Try.func50, Try.ntmps50
  go_wp2_with fail
  clear hq2
  generalize w.alloc (.cells #[.string { data := #[] }, .int .i64 0, .int .i64 0, .int .i64 0, .int .i64 0, .int .i64 0, .int .i64 0, .int .i64 0, .int .i64 0] 40) = w0 at *
  refine HC0.out.mono ?_
  rintro e w1 ⟨nm, rfl, hR, hnm, hT⟩
  have HNm := hide hnm
  have HS1 := hide (Rs.new hR hT hrl HAb.out #[Value.string nm, Value.int .i64 0, Value.int .i64 0, Value.int .i64 0, Value.int .i64 0, Value.int .i64 0, Value.int .i64 0, Value.int .i64 0, Value.int .i64 0] 40)
  clear hR hnm hT
  go_wp2_with fail
  generalize hq : w1.heap.size = q at *
  generalize w1.alloc (.cells #[Value.string nm, Value.int .i64 0, Value.int .i64 0, Value.int .i64 0, Value.int .i64 0, Value.int .i64 0, Value.int .i64 0, Value.int .i64 0, Value.int .i64 0] 40) = v1 at *
  clear hq
  refine (ri64 HS1.out.rd).mono ?_
  rintro e u1 ⟨rfl, hR, hT⟩
  rw [HT1.out] at hR ⊢
  have hK1 := HS1.out.call hT hR
  have c1 := hK1.cell (i := 1) rfl
  have f1 := hK1.fz (i := 1) (by simp)
  have HS2 := hide (hK1.put 1 (.int .i64 x1) (by simp))
  clear hR hT hK1
  dsimp only
  go_wp2_with fail
  generalize u1.setCell ⟨q, 1, none⟩ (.int .i64 x1) = v2 at *
  clear c1 f1 HS1
  refine (ri64 HS2.out.rd).mono ?_
  rintro e u2 ⟨rfl, hR, hT⟩
  rw [HT2.out] at hR ⊢
  have hK2 := HS2.out.call hT hR
  have c2 := hK2.cell (i := 2) rfl
  have f2 := hK2.fz (i := 2) (by simp)
  have HS3 := hide (hK2.put 2 (.int .i64 x2) (by simp))
  clear hR hT hK2
  dsimp only
  go_wp2_with fail
  generalize u2.setCell ⟨q, 2, none⟩ (.int .i64 x2) = v3 at *
  clear c2 f2 HS2
  refine (ri64 HS3.out.rd).mono ?_
  rintro e u3 ⟨rfl, hR, hT⟩
  rw [HT3.out] at hR ⊢
  have hK3 := HS3.out.call hT hR
  have c3 := hK3.cell (i := 3) rfl
  have f3 := hK3.fz (i := 3) (by simp)
  have HS4 := hide (hK3.put 3 (.int .i64 x3) (by simp))
  clear hR hT hK3
  dsimp only
  go_wp2_with fail
  generalize u3.setCell ⟨q, 3, none⟩ (.int .i64 x3) = v4 at *
  clear c3 f3 HS3
  refine (ri64 HS4.out.rd).mono ?_
  rintro e u4 ⟨rfl, hR, hT⟩
  rw [HT4.out] at hR ⊢
  have hK4 := HS4.out.call hT hR
  have c4 := hK4.cell (i := 4) rfl
  have f4 := hK4.fz (i := 4) (by simp)
  have HS5 := hide (hK4.put 4 (.int .i64 x4) (by simp))
  clear hR hT hK4
  dsimp only
  go_wp2_with fail
  generalize u4.setCell ⟨q, 4, none⟩ (.int .i64 x4) = v5 at *
  clear c4 f4 HS4
  refine (ri64 HS5.out.rd).mono ?_
  rintro e u5 ⟨rfl, hR, hT⟩
  rw [HT5.out] at hR ⊢
  have hK5 := HS5.out.call hT hR
  have c5 := hK5.cell (i := 5) rfl
  have f5 := hK5.fz (i := 5) (by simp)
  have HS6 := hide (hK5.put 5 (.int .i64 x5) (by simp))
  clear hR hT hK5
  dsimp only
  go_wp2_with fail
  generalize u5.setCell ⟨q, 5, none⟩ (.int .i64 x5) = v6 at *
  clear c5 f5 HS5
  refine (ri64 HS6.out.rd).mono ?_
  rintro e u6 ⟨rfl, hR, hT⟩
  rw [HT6.out] at hR ⊢
  have hK6 := HS6.out.call hT hR
  have c6 := hK6.cell (i := 6) rfl
  have f6 := hK6.fz (i := 6) (by simp)
  have HS7 := hide (hK6.put 6 (.int .i64 x6) (by simp))
  clear hR hT hK6
  dsimp only
  go_wp2_with fail
  generalize u6.setCell ⟨q, 6, none⟩ (.int .i64 x6) = v7 at *
  clear c6 f6 HS6
  refine (ri64 HS7.out.rd).mono ?_
  rintro e u7 ⟨rfl, hR, hT⟩
  rw [HT7.out] at hR ⊢
  have hK7 := HS7.out.call hT hR
  have c7 := hK7.cell (i := 7) rfl
  have f7 := hK7.fz (i := 7) (by simp)
  have HS8 := hide (hK7.put 7 (.int .i64 x7) (by simp))
  clear hR hT hK7
  dsimp only
  go_wp2_with fail
  generalize u7.setCell ⟨q, 7, none⟩ (.int .i64 x7) = v8 at *
  clear c7 f7 HS7
  refine (ri64 HS8.out.rd).mono ?_
  rintro e u8 ⟨rfl, hR, hT⟩
  rw [HT8.out] at hR ⊢
  have hK8 := HS8.out.call hT hR
  have c8 := hK8.cell (i := 8) rfl
  have f8 := hK8.fz (i := 8) (by simp)
  have HS9 := hide (hK8.put 8 (.int .i64 x8) (by simp))
  clear hR hT hK8
  dsimp only
  go_upto_region 10 with fail
  generalize u8.setCell ⟨q, 8, none⟩ (.int .i64 x8) = v9 at *
  clear c8 f8 HS8
  have hl : (Value.string nm :: intC [x1, x2, x3, x4, x5, x6, x7, x8]).length = 9 := rfl
  have HF : Hid (v9.rangeAt q 0 (Value.string nm :: intC [x1, x2, x3, x4, x5, x6, x7, x8])) := HS9.out.fl
  have HTq : Hid (v9.there q2 0 9) := fun j hj => by
    have hb := HS9.out.tn.block q2 (by rw [HS0.out]; omega) (by simp [hrw])
    rw [World.cell?_of_block (a := ⟨q2, 0 + j, none⟩) hb, World.frozen?_of_block (a := ⟨q2, 0 + j, none⟩) hb]
    exact HTh.out j hj
  have HOne : Hid (∀ v ∈ (Value.string nm :: intC [x1, x2, x3, x4, x5, x6, x7, x8]), v.oneCell' = true) := fun v hv => by
    rcases List.mem_cons.1 hv with rfl | hv
    · rfl
    · obtain ⟨x, _, rfl⟩ := List.mem_map.1 hv
      rfl
  have HR6 := hide (World.rangeAt_setCells_same v9 q2 0 (Value.string nm :: intC [x1, x2, x3, x4, x5, x6, x7, x8]) (by rw [hl]; exact HTq.out))
  have HRd : Hid (Rdr (v9.setCells q2 0 (Value.string nm :: intC [x1, x2, x3, x4, x5, x6, x7, x8])) r a cap B t8) := rdr_far HS9.out.rd (heap_setCellsN q2 r (fun e => hrw e.symm) _ _ _) (fun x hx e => heap_setCellsN q2 x.block (fun k => by have := HAb2.out x hx e; omega) _ _ _)
  have HTn : Hid (Turn [r] w (v9.setCells q2 0 (Value.string nm :: intC [x1, x2, x3, x4, x5, x6, x7, x8]))) := by
    have h1 := HFin.out _ HS9.out.tn
    have e := rest_setCellsN q2 (Value.string nm :: intC [x1, x2, x3, x4, x5, x6, x7, x8]) 0 v9
    exact ⟨e.1.trans h1.os, e.2.1.trans h1.tape, e.2.2.trans h1.output, by rw [size_setCellsN]; exact h1.size, fun k hk hS => (heap_setCellsN q2 k (by have := HQ2.out; omega) _ _ _).trans (h1.block k hk hS)⟩
  generalize hcs : (Value.string nm :: intC [x1, x2, x3, x4, x5, x6, x7, x8]) = cs at HF hl HOne HR6 HRd HTn
  have HCs := hide hcs
  clear hcs
  go_wp2_with (first | ((with_reducible refine load_sz 40 9 sz40 _ q 0 cs hl ?_ HF.out ?_); rfl) | ((with_reducible refine store_sz 40 9 sz40 _ _ q2 0 cs hl HOne.out ?_ ?_ HTq.out ?_); rfl; rfl) | fail)
  refine bodyPost_ret (v := .agg cs.toArray) (results_sz sz40 Try.results50 hl rfl HR6.out) rfl ⟨nm, ?_, HRd.out, HNm.out, HTn.out⟩
  rw [HCs.out]

end Go.Proofs.Ytghgkjollafeiaa

/-
  The reference's reader: answers.
-/
namespace Go.Proofs.Ytghgkjollafeiaa
open Go.RowKit

/-- What is left of an entry behind its id. -/
def an2 (t : Sx) : Sx × Int := errnoS .pr t 0
def an3 (t : Sx) : Sx × List Int := numsS .pr (an2 t).1 (List.replicate 3 0)
def an4 (t : Sx) : Sx × Bool := flagS .pr (an3 t).1 false
def an5 (t : Sx) : Sx × ByteArray × List Int := tiS .pr (an4 t).1 ByteArray.empty (List.replicate 8 0)
def anS (t : Sx) : Sx × EntD :=
  if (an4 t).2 then (if (an5 t).2.2.headD 0 = 0 then refuseS (an5 t).1 11 else (an5 t).1, ⟨0, (an2 t).2, (an3 t).2, (an5 t).2.1, (an5 t).2.2⟩)
  else ((an4 t).1, ⟨0, (an2 t).2, (an3 t).2, ByteArray.empty, List.replicate 8 0⟩)
theorem ent_an (s : Sx) : FE s = ((anS (numS .pr s 0).1).1, { (anS (numS .pr s 0).1).2 with id := (numS .pr s 0).2 }) := by
  have h1 : ent1 .pr s E0 = numS .pr s 0 := rfl
  have h2 : ent2 .pr s E0 = an2 (numS .pr s 0).1 := by
    unfold ent2 an2
    rw [h1]
    rfl
  have h3 : ent3 .pr s E0 = an3 (numS .pr s 0).1 := by
    unfold ent3 an3
    rw [h2]
    rfl
  have h4 : ent4 .pr s E0 = an4 (numS .pr s 0).1 := by
    unfold ent4 an4
    rw [h3]
    rfl
  have h5 : ent5 .pr s E0 = an5 (numS .pr s 0).1 := by
    unfold ent5 an5
    rw [h4]
    rfl
  unfold FE entS anS
  rw [h1, h2, h3, h4, h5]
  generalize an4 (numS .pr s 0).1 = x4
  generalize an5 (numS .pr s 0).1 = x5
  generalize an3 (numS .pr s 0).1 = x3
  generalize an2 (numS .pr s 0).1 = x2
  obtain ⟨s4, b4⟩ := x4
  cases b4
  · rfl
  · rfl

/-- What ReadAnswer answers. -/
def AnsP (w : World) (r : Nat) (a : Option Addr) (cap : Nat) (B : List Nat) (t : Sx) (e : Ending) (w' : World) : Prop := ∃ (nm : ByteArray), e = .returned (.agg (Value.int .i64 (anS t).2.er :: (intC (anS t).2.l ++ Value.string nm :: intC (anS t).2.xs)).toArray) ∧ Rdr w' r a cap B (anS t).1 ∧ ((anS t).1.e = 0 → nm = (anS t).2.nm) ∧ Turn [r] w w'

theorem numS_fault {s : Sx} (h : s.e ≠ 0) (x : Int) : (numS .pr s x).1 = s := by show (takeS s 8).1 = s; rw [takeS_fault h]
theorem numsS_fault : ∀ (l : List Int) {s : Sx} (_ : s.e ≠ 0), (numsS .pr s l).1 = s
  | [], _, _ => rfl
  | x :: l, s, h => by
    show (numsS .pr (numS .pr s x).1 l).1 = s
    rw [numS_fault h]
    exact numsS_fault l h
theorem tiS_text {t : Sx} {nm : ByteArray} {l : List Int} (h : (tiS .pr t nm l).1.e = 0) : (textS .pr t nm).1.e = 0 := by
  refine Classical.byContradiction fun k => ?_
  have : (tiS .pr t nm l).1 = (textS .pr t nm).1 := numsS_fault l k
  rw [this] at h
  exact k h

set_option maxRecDepth 100000 in
set_option maxHeartbeats 6400000 in
theorem rdAns {w : World} {r : Nat} {a : Option Addr} {cap : Nat} {B : List Nat} {t : Sx} (h : Rdr w r a cap B t) : Calls Try.prog 66 #[.pointer (some ⟨r, 0, none⟩)] w fun e w' => AnsP w r a cap B t e w' := by
  obtain ⟨hR0, hrl, hab⟩ := h.base (.cells #[.int .i64 0, .int .i64 0, .int .i64 0, .int .i64 0, .string { data := #[] }, .int .i64 0, .int .i64 0, .int .i64 0, .int .i64 0, .int .i64 0, .int .i64 0, .int .i64 0, .int .i64 0] 67)
  have HTh := hide (there_new2 w #[.int .i64 0, .int .i64 0, .int .i64 0, .int .i64 0, .string { data := #[] }, .int .i64 0, .int .i64 0, .int .i64 0, .int .i64 0, .int .i64 0, .int .i64 0, .int .i64 0, .int .i64 0] 67)
  have hs0 : (w.alloc (.cells #[.int .i64 0, .int .i64 0, .int .i64 0, .int .i64 0, .string { data := #[] }, .int .i64 0, .int .i64 0, .int .i64 0, .int .i64 0, .int .i64 0, .int .i64 0, .int .i64 0, .int .i64 0] 67)).heap.size = w.heap.size + 1 := by simp
  have HS0 := hide hs0
  have HAb := hide hab
  have HAb2 := hide (fun x hx e => h.hB.lt x hx e)
  have HC0 := hide (ru8 hR0)
  have HFin : Hid (∀ w', Turn [r] (w.alloc (.cells #[.int .i64 0, .int .i64 0, .int .i64 0, .int .i64 0, .string { data := #[] }, .int .i64 0, .int .i64 0, .int .i64 0, .int .i64 0, .int .i64 0, .int .i64 0, .int .i64 0, .int .i64 0] 67)) w' → Turn [r] w w') := fun w' hT => hT.from_alloc
  have hrw : w.heap.size ≠ r := by have := h.at; omega
  unfold U8P at HC0
  obtain ⟨⟨t0, k⟩, hT0⟩ : ∃ T, countS .pr t 0 = T := ⟨_, rfl⟩
  rw [hT0] at HC0
  obtain ⟨⟨t1, x1⟩, hT1⟩ : ∃ T, numS .pr t0 0 = T := ⟨_, rfl⟩
  obtain ⟨⟨t2, x2⟩, hT2⟩ : ∃ T, numS .pr t1 0 = T := ⟨_, rfl⟩
  obtain ⟨⟨t3, x3⟩, hT3⟩ : ∃ T, numS .pr t2 0 = T := ⟨_, rfl⟩
  obtain ⟨⟨t4, f⟩, hT4⟩ : ∃ T, countS .pr t3 0 = T := ⟨_, rfl⟩
  have e2 : an2 t = (t0, (k : Int)) := by
    show ((countS .pr t 0).1, ((countS .pr t 0).2 : Int)) = _
    rw [hT0]
  have e3 : an3 t = (t3, [x1, x2, x3]) := by
    unfold an3
    rw [e2]
    show numsS .pr t0 [0, 0, 0] = _
    simp only [numsS, hT1, hT2, hT3]
  have e4 : an4 t = (if f > 1 then refuseS t4 11 else t4, f == 1) := by
    unfold an4
    rw [e3]
    show (if (countS .pr t3 0).2 > 1 then refuseS (countS .pr t3 0).1 11 else (countS .pr t3 0).1, (countS .pr t3 0).2 == 1) = _
    rw [hT4]
  have hf0 : t4.e ≠ 0 → f = 0 := fun he => by
    have h1 : (takeS t3 1).1 = t4 := congrArg Prod.fst hT4
    have h2 : (takeS t3 1).2.headD 0 = f := congrArg Prod.snd hT4
    by_cases h3 : t3.e = 0
    · unfold takeS at h1 h2
      rw [if_neg (by omega)] at h1 h2
      split at h1
      · rename_i h4
        rw [if_pos h4] at h2
        exact h2.symm
      · rename_i h4
        exact absurd (by rw [← h1]) he
    · rw [takeS_fault h3] at h2
      exact h2.symm
  have HE2 := hide e2
  have HE3 := hide e3
  have HE4 := hide e4
  have HF0 := hide hf0
  have HT1 := hide hT1
  have HT2 := hide hT2
  have HT3 := hide hT3
  have HT4 := hide hT4
  clear hab h hs0 hR0 hT0 hT1 hT2 hT3 hT4 e2 e3 e4 hf0
  dsimp only at HC0
  generalize hq2 : w.heap.size = q2 at *
  have HQ2 := hide hq2
  go_enter Try.func66, Try.ntmps66
  go_wp2_with fail
  clear hq2
  generalize w.alloc (.cells #[.int .i64 0, .int .i64 0, .int .i64 0, .int .i64 0, .string { data := #[] }, .int .i64 0, .int .i64 0, .int .i64 0, .int .i64 0, .int .i64 0, .int .i64 0, .int .i64 0, .int .i64 0] 67) = w0 at *
  refine HC0.out.mono ?_
  rintro e w1 ⟨rfl, hR, hT⟩
  have HS1 := hide (Rs.new hR hT hrl HAb.out #[Value.int .i64 (k : Nat), .int .i64 0, .int .i64 0, .int .i64 0, .string { data := #[] }, .int .i64 0, .int .i64 0, .int .i64 0, .int .i64 0, .int .i64 0, .int .i64 0, .int .i64 0, .int .i64 0] 67)
  clear hR hT
  go_wp2_with fail
  generalize hq : w1.heap.size = q at *
  generalize w1.alloc (.cells #[Value.int .i64 (k : Nat), .int .i64 0, .int .i64 0, .int .i64 0, .string { data := #[] }, .int .i64 0, .int .i64 0, .int .i64 0, .int .i64 0, .int .i64 0, .int .i64 0, .int .i64 0, .int .i64 0] 67) = v1 at *
  clear hq
  refine (ri64 HS1.out.rd).mono ?_
  rintro e u1 ⟨rfl, hR, hT⟩
  rw [HT1.out] at hR ⊢
  have hK1 := HS1.out.call hT hR
  have c1 := hK1.cell (i := 1) rfl
  have f1 := hK1.fz (i := 1) (by simp)
  have HS2 := hide (hK1.put 1 (.int .i64 x1) (by simp))
  clear hR hT hK1
  dsimp only
  go_wp2_with fail
  generalize u1.setCell ⟨q, 1, none⟩ (.int .i64 x1) = v2 at *
  clear c1 f1 HS1
  refine (ri64 HS2.out.rd).mono ?_
  rintro e u2 ⟨rfl, hR, hT⟩
  rw [HT2.out] at hR ⊢
  have hK2 := HS2.out.call hT hR
  have c2 := hK2.cell (i := 2) rfl
  have f2 := hK2.fz (i := 2) (by simp)
  have HS3 := hide (hK2.put 2 (.int .i64 x2) (by simp))
  clear hR hT hK2
  dsimp only
  go_wp2_with fail
  generalize u2.setCell ⟨q, 2, none⟩ (.int .i64 x2) = v3 at *
  clear c2 f2 HS2
  refine (ri64 HS3.out.rd).mono ?_
  rintro e u3 ⟨rfl, hR, hT⟩
  rw [HT3.out] at hR ⊢
  have hK3 := HS3.out.call hT hR
  have c3 := hK3.cell (i := 3) rfl
  have f3 := hK3.fz (i := 3) (by simp)
  have HS4 := hide (hK3.put 3 (.int .i64 x3) (by simp))
  clear hR hT hK3
  dsimp only
  go_wp2_with fail
  generalize u3.setCell ⟨q, 3, none⟩ (.int .i64 x3) = v4 at *
  clear c3 f3 HS3
  refine (ru8 HS4.out.rd).mono ?_
  rintro e u4 ⟨rfl, hR, hT⟩
  rw [HT4.out] at hR ⊢
  have HS5 := hide (HS4.out.call hT hR)
  clear hR hT HS4
  dsimp only at HS5 ⊢
  have hc2 := HS5.out.rd.c2
  have f2 := HS5.out.rd.f2
  have HEnd : Hid (∀ (v : World) (nm : ByteArray) (xs : List Int) (s : Sx), Rs w0 v r a cap B s q (Value.int .i64 (k : Nat) :: (intC [x1, x2, x3] ++ Value.string nm :: intC xs)) → xs.length = 8 → anS t = (s, (anS t).2) → (anS t).2.er = (k : Int) → (anS t).2.l = [x1, x2, x3] → (anS t).2.xs = xs → (s.e = 0 → nm = (anS t).2.nm) →
      (∃ cs : List Value, cs.length = 13 ∧ (∀ u ∈ cs, u.oneCell' = true) ∧ v.rangeAt q 0 cs ∧ v.there q2 0 13 ∧ ∀ e, e = Ending.returned (.agg cs.toArray) → AnsP w r a cap B t e (v.setCells q2 0 cs))) := fun v nm xs s hS hx h0 h1 h2 h3 h4 => by
    refine ⟨Value.int .i64 (k : Nat) :: (intC [x1, x2, x3] ++ Value.string nm :: intC xs), by simp [intC, hx], fun u hu => ?_, hS.fl, fun j hj => ?_, fun e he => ⟨nm, ?_, ?_, ?_, ?_⟩⟩
    · simp only [intC, List.mem_cons, List.mem_append, List.mem_map] at hu
      rcases hu with rfl | ⟨x, _, rfl⟩ | rfl | ⟨x, _, rfl⟩ <;> rfl
    · have hb := hS.tn.block q2 (by rw [HS0.out]; omega) (by simp [hrw])
      rw [World.cell?_of_block (a := ⟨q2, 0 + j, none⟩) hb, World.frozen?_of_block (a := ⟨q2, 0 + j, none⟩) hb]
      exact HTh.out j hj
    · rw [he, h1, h2, h3]
    · rw [show (anS t).1 = s from congrArg Prod.fst h0]
      exact rdr_far hS.rd (heap_setCellsN q2 r (fun e => hrw e.symm) _ _ _) (fun x hx e => heap_setCellsN q2 x.block (fun k => by have := HAb2.out x hx e; have := HQ2.out; omega) _ _ _)
    · rw [show (anS t).1 = s from congrArg Prod.fst h0]
      exact h4
    · have g1 := HFin.out _ hS.tn
      have e := rest_setCellsN q2 (Value.int .i64 (k : Nat) :: (intC [x1, x2, x3] ++ Value.string nm :: intC xs)) 0 v
      exact ⟨e.1.trans g1.os, e.2.1.trans g1.tape, e.2.2.trans g1.output, by rw [size_setCellsN]; exact g1.size, fun k hk hS => (heap_setCellsN q2 k (by have := HQ2.out; omega) _ _ _).trans (g1.block k hk hS)⟩
  by_cases he : t4.e = 0
  · rw [he] at hc2
    by_cases hf1 : 1 < f
    · have hA : anS t = (⟨t4.l, 11⟩, ⟨0, (k : Int), [x1, x2, x3], ByteArray.empty, List.replicate 8 0⟩) := by
        unfold anS
        rw [HE4.out, HE2.out, HE3.out]
        have : (f == 1) = false := by simp; omega
        rw [this, if_pos hf1]
        unfold refuseS
        rw [if_pos he]
        rfl
      have hRs : Rs w0 (u4.setCell ⟨r, 2, none⟩ (.int .i64 (11 : Nat))) r a cap B ⟨t4.l, 11⟩ q _ := HS5.out.call ((Turn.refl [r] u4).setCell (by simp) 2 _) (HS5.out.rd.setE 11 (by omega) t4.l)
      obtain ⟨cs, hl, ho, hr, hth, hfin⟩ := HEnd.out _ ByteArray.empty (List.replicate 8 0) ⟨t4.l, 11⟩ hRs rfl (by rw [hA]) (by rw [hA]) (by rw [hA]) (by rw [hA]) (fun k => by cases k)
      have gc2 := hRs.rd.c2
      have gf2 := hRs.rd.f2
      have HO := hide ho
      have HRr := hide hr
      have HThq := hide hth
      have HFq := hide hfin
      have HR6 := hide (World.rangeAt_setCells_same _ q2 0 cs (by rw [hl]; exact hth))
      clear ho hr hth hfin hA
      go_upto_region 8 with fail
      generalize u4.setCell ⟨r, 2, none⟩ (.int .i64 11) = v5 at *
      go_wp2_with (first | ((with_reducible refine load_sz 67 13 sz67 _ q 0 cs hl ?_ HRr.out ?_); rfl) | ((with_reducible refine store_sz 67 13 sz67 _ _ q2 0 cs hl HO.out ?_ ?_ HThq.out ?_); rfl; rfl) | fail)
      exact bodyPost_ret (v := .agg cs.toArray) (results_sz sz67 Try.results66 hl rfl HR6.out) rfl (HFq.out _ rfl)
    · by_cases hf2 : f = 1
      · subst hf2
        obtain ⟨⟨t5, nm5, xs5⟩, h5⟩ : ∃ T, tiS .pr t4 ByteArray.empty (List.replicate 8 0) = T := ⟨_, rfl⟩
        have hx8 : xs5.length = 8 := by
          have := congrArg (fun T => T.2.2.length) h5
          rw [← this]
          exact (numsS_length .pr _ _).trans rfl
        have e5 : an5 t = (t5, nm5, xs5) := by
          unfold an5
          rw [HE4.out]
          exact h5
        obtain ⟨z1, z2, z3, z4, z5, z6, z7, z8, rfl⟩ : ∃ z1 z2 z3 z4 z5 z6 z7 z8, xs5 = [z1, z2, z3, z4, z5, z6, z7, z8] := by
          match xs5, hx8 with
          | [z1, z2, z3, z4, z5, z6, z7, z8], _ => exact ⟨z1, z2, z3, z4, z5, z6, z7, z8, rfl⟩
        have hA : anS t = (if z1 = 0 then refuseS t5 11 else t5, ⟨0, (k : Int), [x1, x2, x3], nm5, [z1, z2, z3, z4, z5, z6, z7, z8]⟩) := by
          unfold anS
          rw [e5, HE4.out, HE2.out, HE3.out]
          rfl
        have HC5 := hide (rdStm HS5.out.rd)
        have htx : t5.e = 0 → (textS .pr t4 ByteArray.empty).1.e = 0 := fun k => tiS_text (l := List.replicate 8 0) (by rw [h5]; exact k)
        unfold rdStmP at HC5
        rw [h5] at HC5
        have HTx := hide htx
        have HA := hide hA
        clear htx hA e5 h5 hx8
        dsimp only at HC5
        go_wp2_with fail
        refine HC5.out.mono ?_
        rintro e u5 ⟨nm, rfl, hR, hnm, hT⟩
        have hK := HS5.out.call hT hR
        have HNm := hide hnm
        have HT9 : Hid (u5.there q 4 9) := fun j hj => by
          have := hK.th (4 + j) (by simp; omega)
          rw [Nat.zero_add] at this
          exact this
        have hl9 : (Value.string nm :: intC [z1, z2, z3, z4, z5, z6, z7, z8]).length = 9 := rfl
        have HO9 : Hid (∀ v ∈ (Value.string nm :: intC [z1, z2, z3, z4, z5, z6, z7, z8]), v.oneCell' = true) := fun v hv => by
          rcases List.mem_cons.1 hv with rfl | hv
          · rfl
          · obtain ⟨x, _, rfl⟩ := List.mem_map.1 hv
            rfl
        have HS6 : Hid (Rs w0 (u5.setCells q 4 (Value.string nm :: intC [z1, z2, z3, z4, z5, z6, z7, z8])) r a cap B t5 q (Value.int .i64 (k : Nat) :: (intC [x1, x2, x3] ++ Value.string nm :: intC [z1, z2, z3, z4, z5, z6, z7, z8]))) := hK.puts 4 _ (by simp [hl9])
        clear hR hnm hT hK hc2 f2
        generalize hc9 : (Value.string nm :: intC [z1, z2, z3, z4, z5, z6, z7, z8]) = c9 at HT9 hl9 HO9 HS6 ⊢
        have HC9 := hide hc9
        clear hc9
        go_upto_region 10 with (first | ((with_reducible refine store_sz 40 9 sz40 _ _ q 4 c9 hl9 HO9.out ?_ ?_ HT9.out ?_); rfl; rfl) | fail)
        generalize u5.setCells q 4 c9 = v6 at *
        rw [← HC9.out] at HS6
        have gc5 := HS6.out.cell (i := 5) (v := .int .i64 z1) rfl
        have gc2 := HS6.out.rd.c2
        have gf2 := HS6.out.rd.f2
        by_cases h5e : t5.e = 0
        · rw [h5e] at gc2
          by_cases hz : z1 = 0
          · subst hz
            have hB : anS t = (⟨t5.l, 11⟩, (anS t).2) := by
              rw [HA.out, if_pos rfl]
              unfold refuseS
              rw [if_pos h5e]
            have hRs : Rs w0 (v6.setCell ⟨r, 2, none⟩ (.int .i64 (11 : Nat))) r a cap B ⟨t5.l, 11⟩ q _ := HS6.out.call ((Turn.refl [r] v6).setCell (by simp) 2 _) (HS6.out.rd.setE 11 (by omega) t5.l)
            obtain ⟨cs, hl, ho, hr, hth, hfin⟩ := HEnd.out _ nm [0, z2, z3, z4, z5, z6, z7, z8] ⟨t5.l, 11⟩ hRs rfl hB (by rw [HA.out]) (by rw [HA.out]) (by rw [HA.out]) (fun k => by cases k)
            have hA := hB
            have HO := hide ho
            have HRr := hide hr
            have HThq := hide hth
            have HFq := hide hfin
            have HR6 := hide (World.rangeAt_setCells_same _ q2 0 cs (by rw [hl]; exact hth))
            clear ho hr hth hfin hA
            go_upto_region 12 with fail
            generalize v6.setCell ⟨r, 2, none⟩ (.int .i64 11) = v7 at *
            go_wp2_with (first | ((with_reducible refine load_sz 67 13 sz67 _ q 0 cs hl ?_ HRr.out ?_); rfl) | ((with_reducible refine store_sz 67 13 sz67 _ _ q2 0 cs hl HO.out ?_ ?_ HThq.out ?_); rfl; rfl) | fail)
            exact bodyPost_ret (v := .agg cs.toArray) (results_sz sz67 Try.results66 hl rfl HR6.out) rfl (HFq.out _ rfl)
          · have hB : anS t = (t5, (anS t).2) := by rw [HA.out, if_neg hz]
            obtain ⟨cs, hl, ho, hr, hth, hfin⟩ := HEnd.out _ nm [z1, z2, z3, z4, z5, z6, z7, z8] t5 HS6.out rfl hB (by rw [HA.out]) (by rw [HA.out]) (by rw [HA.out]) (fun k => by rw [HA.out]; exact HNm.out (HTx.out k))
            have hA := hB
            have HO := hide ho
            have HRr := hide hr
            have HThq := hide hth
            have HFq := hide hfin
            have HR6 := hide (World.rangeAt_setCells_same _ q2 0 cs (by rw [hl]; exact hth))
            clear ho hr hth hfin hA
            go_wp2_with (first | ((with_reducible refine load_sz 67 13 sz67 _ q 0 cs hl ?_ HRr.out ?_); rfl) | ((with_reducible refine store_sz 67 13 sz67 _ _ q2 0 cs hl HO.out ?_ ?_ HThq.out ?_); rfl; rfl) | fail)
            exact bodyPost_ret (v := .agg cs.toArray) (results_sz sz67 Try.results66 hl rfl HR6.out) rfl (HFq.out _ rfl)
        · have hne : ¬ ((t5.e : Nat) : Int) = 0 := by omega
          have hB : anS t = (t5, (anS t).2) := by
            rw [HA.out]
            unfold refuseS
            rw [if_neg h5e]
            split <;> rfl
          obtain ⟨cs, hl, ho, hr, hth, hfin⟩ := HEnd.out _ nm [z1, z2, z3, z4, z5, z6, z7, z8] t5 HS6.out rfl hB (by rw [HA.out]) (by rw [HA.out]) (by rw [HA.out]) (fun k => absurd k h5e)
          have hA := hB
          have HO := hide ho
          have HRr := hide hr
          have HThq := hide hth
          have HFq := hide hfin
          have HR6 := hide (World.rangeAt_setCells_same _ q2 0 cs (by rw [hl]; exact hth))
          clear ho hr hth hfin hA
          go_wp2_with (first | ((with_reducible refine load_sz 67 13 sz67 _ q 0 cs hl ?_ HRr.out ?_); rfl) | ((with_reducible refine store_sz 67 13 sz67 _ _ q2 0 cs hl HO.out ?_ ?_ HThq.out ?_); rfl; rfl) | fail)
          exact bodyPost_ret (v := .agg cs.toArray) (results_sz sz67 Try.results66 hl rfl HR6.out) rfl (HFq.out _ rfl)
      · obtain rfl : f = 0 := by omega
        have hA : anS t = (t4, ⟨0, (k : Int), [x1, x2, x3], ByteArray.empty, List.replicate 8 0⟩) := by
          unfold anS
          rw [HE4.out, HE2.out, HE3.out]
          rfl
        obtain ⟨cs, hl, ho, hr, hth, hfin⟩ := HEnd.out _ ByteArray.empty (List.replicate 8 0) t4 HS5.out rfl (by rw [hA]) (by rw [hA]) (by rw [hA]) (by rw [hA]) (fun _ => by rw [hA])
        have HO := hide ho
        have HRr := hide hr
        have HThq := hide hth
        have HFq := hide hfin
        have HR6 := hide (World.rangeAt_setCells_same _ q2 0 cs (by rw [hl]; exact hth))
        clear ho hr hth hfin hA
        go_wp2_with (first | ((with_reducible refine load_sz 67 13 sz67 _ q 0 cs hl ?_ HRr.out ?_); rfl) | ((with_reducible refine store_sz 67 13 sz67 _ _ q2 0 cs hl HO.out ?_ ?_ HThq.out ?_); rfl; rfl) | fail)
        exact bodyPost_ret (v := .agg cs.toArray) (results_sz sz67 Try.results66 hl rfl HR6.out) rfl (HFq.out _ rfl)
  · obtain rfl : f = 0 := HF0.out he
    have hne : ¬ ((t4.e : Nat) : Int) = 0 := by omega
    have hA : anS t = (t4, ⟨0, (k : Int), [x1, x2, x3], ByteArray.empty, List.replicate 8 0⟩) := by
      unfold anS
      rw [HE4.out, HE2.out, HE3.out]
      rfl
    obtain ⟨cs, hl, ho, hr, hth, hfin⟩ := HEnd.out _ ByteArray.empty (List.replicate 8 0) t4 HS5.out rfl (by rw [hA]) (by rw [hA]) (by rw [hA]) (by rw [hA]) (fun _ => by rw [hA])
    have HO := hide ho
    have HRr := hide hr
    have HThq := hide hth
    have HFq := hide hfin
    have HR6 := hide (World.rangeAt_setCells_same _ q2 0 cs (by rw [hl]; exact hth))
    clear ho hr hth hfin hA
    go_wp2_with (first | ((with_reducible refine load_sz 67 13 sz67 _ q 0 cs hl ?_ HRr.out ?_); rfl) | ((with_reducible refine store_sz 67 13 sz67 _ _ q2 0 cs hl HO.out ?_ ?_ HThq.out ?_); rfl; rfl) | fail)
    exact bodyPost_ret (v := .agg cs.toArray) (results_sz sz67 Try.results66 hl rfl HR6.out) rfl (HFq.out _ rfl)
end Go.Proofs.Ytghgkjollafeiaa

/-
  The reference's reader: a list that grows by elements read one by one.
-/
namespace Go.Proofs.Ytghgkjollafeiaa
open Go.RowKit

/-- An element was built; it is appended. -/
theorem append1 {ops : Array Oper} {rest : List Oper} {o : Oper} {a : Act} {Q : Exit → Act → World → Prop} {w : World} (hgd : o.guard = none) (s x : Operand) (tS tE sz bt : Nat) (z : Value) (hu : Try.prog.underlying tS = some (.slice tE)) (hinf : (Try.prog.info? tE).map (fun i => (i.zero, i.size, i.bytes)) = some (some z, sz, bt)) (hz : z.cells.size = sz) (hsz : 0 < sz) (hbt : bt ≤ 200)
    (ho : o.op = .call { callee := .builtin .append, args := #[s, x], argTypes := #[tS, tS] }) (base : Nat) (v : Value) (n : Nat) (xs : List Value) (hs : a.eval s = v) (hown : w.ownsRow base tE sz v n xs) (g : Nat) (c : List Value) (hx : a.eval x = .slice (some ⟨g, 0, none⟩) 1 1) (hl : c.length = sz) (hc : w.rangeAt g 0 c) (h1 : ∀ u ∈ c, u.oneCell' = true) (hn : n ≤ 1000) (hbase : base ≤ w.heap.size)
    (h : ∀ v' w', w'.ownsRow base tE sz v' (n + 1) (xs ++ c) → w.grownBy w' v.ownBlock → (v'.ownBlock = v.ownBlock ∨ v'.ownBlock = some w.heap.size) → wpList Try.prog ops Q rest (a.put o.dst v') w') : wpList Try.prog ops Q (o :: rest) a w := by
  obtain ⟨i0, hi, hz0, hz1, hz2⟩ := info_parts hinf
  refine wpList_append_own_at _ hgd s x tS ho base tE i0 z sz bt hu hi hz0 hz1 hz2 hz hsz v n xs hs hown ⟨g, 0, none⟩ 1 1 c hx (by omega) (fun j u hj => by rw [Addr.add_mid]; exact hc j u hj) h1 (by unfold maxLen; omega) ?_ hbase (fun v' w' k1 k2 _ k4 => h v' w' k1 k2 k4)
  have : (n + 1) * bt ≤ 1001 * 200 := Nat.mul_le_mul (by omega) hbt
  omega

/-- A list in a struct's cell o, since ws. -/
structure Lst {D : Type} (w0 ws w : World) (r : Nat) (a : Option Addr) (cap : Nat) (B : List Nat) (t : Sx) (q : Nat) (cs : List Value) (o tE sz : Nat) (good : World → List Value → D → Prop) (v : Value) (ps : List (List Value × D)) : Prop where
  rs : Rs w0 w r a cap B t q cs
  row : RowP ws.heap.size w tE sz good v ps
  cv : cs[o]? = some v
  fr : ∀ x, x < ws.heap.size → x ≠ q → x ≠ r → w.heap[x]? = ws.heap[x]?
  qs : q < ws.heap.size
  sz' : ws.heap.size ≤ w.heap.size
theorem Lst.new {D : Type} {w0 w : World} {r : Nat} {a : Option Addr} {cap : Nat} {B : List Nat} {t : Sx} {q : Nat} {cs : List Value} {o tE sz : Nat} {good : World → List Value → D → Prop} (h : Rs w0 w r a cap B t q cs) (hc : cs[o]? = some (.slice none 0 0)) : Lst w0 w w r a cap B t q cs o tE sz good (.slice none 0 0) [] :=
  ⟨h, ⟨World.ownsRow_nil _ _ _ _, fun p hp => (by cases hp), fun p hp => (by cases hp)⟩, hc, fun _ _ _ _ => rfl, h.ql, Nat.le_refl _⟩
/-- A round: the element was read since w (into block qe), copied, and appended. -/
theorem Lst.push {D : Type} {w0 ws w u w2 : World} {r : Nat} {a : Option Addr} {cap : Nat} {B : List Nat} {t t' : Sx} {q : Nat} {cs : List Value} {o tE sz : Nat} {good : World → List Value → D → Prop} {v v' : Value} {ps : List (List Value × D)} {c : List Value} {d : D} (hG : Stays good) (h : Lst w0 ws w r a cap B t q cs o tE sz good v ps)
    (hT : Turn [r] w u) (hR : Rdr u r a cap B t') (hcl : c.length = sz) (hg : good u c d) (hld : ∀ x, lead c x → w.heap.size ≤ x ∧ x < u.heap.size)
    (ob : Obj) (hO : w2.ownsRow ws.heap.size tE sz v' (ps.length + 1) (ps.flatMap Prod.fst ++ c)) (hgr : (u.alloc ob).grownBy w2 v.ownBlock) (hv : v'.ownBlock = v.ownBlock ∨ v'.ownBlock = some (u.alloc ob).heap.size) :
    Lst w0 ws (w2.setCell ⟨q, o, none⟩ v') r a cap B t' q (cs.set o v') o tE sz good v' (ps ++ [(c, d)]) := by
  have hsu : (u.alloc ob).heap.size = u.heap.size + 1 := by simp
  have hwu := hT.size
  have hs2 := hgr.size
  have hvl : ∀ x, v.ownBlock = some x → ws.heap.size ≤ x ∧ x < w.heap.size := fun x e => h.row.own.lt x e
  have hrl : r < ws.heap.size := Nat.lt_of_lt_of_le h.rs.rl (Nat.le_trans h.rs.q0 (Nat.le_of_lt h.qs))
  have key : ∀ x, x < u.heap.size → v.ownBlock ≠ some x → w2.heap[x]? = u.heap[x]? := fun x hx hn => (hgr.block x (by omega) (fun e => hn e.symm)).trans (Below.heap_alloc u _ x hx)
  have keyw : ∀ x, x < w.heap.size → x ≠ r → v.ownBlock ≠ some x → w2.heap[x]? = w.heap[x]? := fun x hx hr hn => (key x (by omega) hn).trans (hT.block x hx (by simp [hr]))
  have hqn : v.ownBlock ≠ some q := fun e => by have := (hvl q e).1; have := h.qs; omega
  have hrn : v.ownBlock ≠ some r := fun e => by have := (hvl r e).1; omega
  have hqr : q ≠ r := by have := h.rs.q0; have := h.rs.rl; omega
  have hR2 : Rdr w2 r a cap B t' := rdr_far hR (key r hR.at hrn) (fun x hx e => key x.block (hR.hB.lt x hx e) (fun k => by have := (hvl _ k).1; have h1 := h.rs.ab x hx e; have h2 := h.rs.q0; have h3 := h.qs; omega))
  have hol : o < cs.length := (List.getElem?_eq_some_iff.1 h.cv).1
  have hb : w2.heap[q]? = w.heap[q]? := keyw q h.rs.ql hqr hqn
  have hRs : Rs w0 w2 r a cap B t' q cs := ⟨hR2, fun j u' hj => (World.cell?_of_block (a := ⟨q, 0 + j, none⟩) hb).trans (h.rs.fl j u' hj), fun j hj => by
    rw [World.cell?_of_block (a := ⟨q, 0 + j, none⟩) hb, World.frozen?_of_block (a := ⟨q, 0 + j, none⟩) hb]
    exact h.rs.th j hj, ⟨hgr.os.trans (hT.os.trans h.rs.tn.os), hgr.tape.trans (hT.tape.trans h.rs.tn.tape), hgr.output.trans (hT.output.trans h.rs.tn.output), by have := h.rs.tn.size; omega, fun x hx hS => ?_⟩, h.rs.q0, by have := h.rs.ql; omega, h.rs.rl, h.rs.ab⟩
  · have hset : ∀ x, x ≠ q → (w2.setCell ⟨q, o, none⟩ v').heap[x]? = w2.heap[x]? := fun x hx => Below.heap_setCell w2 ⟨q, o, none⟩ _ x hx
    have hv' : ∀ x, v'.ownBlock = some x → x ≠ q := fun x e k => by
      subst k
      rcases hv with e2 | e2
      · exact hqn (e2.symm.trans e)
      · rw [e2] at e
        have := Option.some.inj e
        have := h.rs.ql
        omega
    have hsz2 : (w2.setCell ⟨q, o, none⟩ v').heap.size = w2.heap.size := size_setCellsN q [v'] o w2
    have hlq : ∀ x, lead c x → x ≠ q ∧ v.ownBlock ≠ some x := fun x hx => by
      have h1 := (hld x hx).1
      refine ⟨fun e => by have := h.rs.ql; omega, fun e => by have := (hvl x e).2; omega⟩
    refine ⟨hRs.put o v' hol, ⟨?_, fun p hp => ?_, fun p hp x hx => ?_⟩, by rw [List.getElem?_set_self hol], fun x hx hxq hxr => ?_, h.qs, by rw [hsz2]; have := h.sz'; omega⟩
    · refine own_same (w := w2) ?_ (fun x e => hset x (hv' x e))
      rw [List.length_append, List.flatMap_append, List.flatMap_cons, List.flatMap_nil, List.append_nil]
      exact hO
    · rcases List.mem_append.1 hp with hp | hp
      · refine ⟨(h.row.el p hp).1, hG _ _ _ _ (h.row.el p hp).2 (fun x hx => ?_)⟩
        obtain ⟨k1, k2, k3⟩ := h.row.ld p hp x hx
        rw [hset x (fun e => by have := h.qs; omega)]
        exact keyw x k2 (fun e => by omega) k3
      · obtain rfl := List.mem_singleton.1 hp
        refine ⟨hcl, hG _ _ _ _ hg (fun x hx => ?_)⟩
        rw [hset x (hlq x hx).1]
        exact key x (hld x hx).2 (hlq x hx).2
    · rw [hsz2]
      rcases List.mem_append.1 hp with hp | hp
      · obtain ⟨k1, k2, k3⟩ := h.row.ld p hp x hx
        refine ⟨k1, by omega, fun e => ?_⟩
        rcases hv with e2 | e2
        · exact k3 (e2.symm.trans e)
        · rw [e2] at e
          have := Option.some.inj e
          omega
      · obtain rfl := List.mem_singleton.1 hp
        have h1 := hld x hx
        refine ⟨by have := h.sz'; omega, by omega, fun e => ?_⟩
        rcases hv with e2 | e2
        · exact (hlq x hx).2 (e2.symm.trans e)
        · rw [e2] at e
          have := Option.some.inj e
          omega
    · rw [hset x hxq, ← h.fr x hx hxq hxr]
      exact keyw x (by have := h.sz'; omega) hxr (fun e => by have := (hvl x e).1; omega)
  · have hx2 : x < w.heap.size := Nat.lt_of_lt_of_le hx h.rs.tn.size
    have hxr : x ≠ r := fun e => hS (by simp [e])
    exact (keyw x hx2 hxr (fun e => by have := (hvl x e).1; have := h.rs.q0; have := h.qs; omega)).trans (h.rs.tn.block x hx hS)
/-- All but two blocks is as it was. -/
def Fr (q r : Nat) (ws w : World) : Prop := ws.heap.size ≤ w.heap.size ∧ ∀ x, x < ws.heap.size → x ≠ q → x ≠ r → w.heap[x]? = ws.heap[x]?
theorem Fr.refl (q r : Nat) (w : World) : Fr q r w w := ⟨Nat.le_refl _, fun _ _ _ _ => rfl⟩
theorem Fr.trans {q r : Nat} {u v w : World} (h : Fr q r u v) (k : Fr q r v w) : Fr q r u w := ⟨Nat.le_trans h.1 k.1, fun x hx h1 h2 => (k.2 x (Nat.lt_of_lt_of_le hx h.1) h1 h2).trans (h.2 x hx h1 h2)⟩
theorem Fr.turn {q r : Nat} {u v w : World} (h : Fr q r u v) (k : Turn [r] v w) : Fr q r u w := h.trans ⟨k.size, fun x hx _ h2 => k.block x hx (by simp [h2])⟩
theorem Fr.set {q r : Nat} {u v : World} (h : Fr q r u v) (o : Nat) (x : Value) : Fr q r u (v.setCell ⟨q, o, none⟩ x) := h.trans ⟨Nat.le_of_eq (size_setCellsN q [x] o v).symm, fun y _ h1 _ => Below.heap_setCell v ⟨q, o, none⟩ _ y h1⟩
theorem Lst.frm {D : Type} {w0 ws w : World} {r : Nat} {a : Option Addr} {cap : Nat} {B : List Nat} {t : Sx} {q : Nat} {cs : List Value} {o tE sz : Nat} {good : World → List Value → D → Prop} {v : Value} {ps : List (List Value × D)} (h : Lst w0 ws w r a cap B t q cs o tE sz good v ps) : Fr q r ws w := ⟨h.sz', h.fr⟩
theorem RowP.fr {D : Type} {b q r : Nat} {w w' : World} {t sz : Nat} {good : World → List Value → D → Prop} {v : Value} {ps : List (List Value × D)} (h : RowP b w t sz good v ps) (hg : Stays good) (hF : Fr q r w w') (hq : q < b) (hr : r < b) : RowP b w' t sz good v ps :=
  h.keep hg hF.1 (fun x h1 h2 => hF.2 x h2 (by omega) (by omega))
end Go.Proofs.Ytghgkjollafeiaa

/-
  The reference's reader: accounts.
-/
namespace Go.Proofs.Ytghgkjollafeiaa
open Go.RowKit

theorem sz28 : Sz 28 20 := ⟨by kernel_rfl, .struct (Try.prog.fieldsOf 28), by kernel_rfl, rfl⟩
theorem sz82 : Sz 82 9 := ⟨by kernel_rfl, .struct (Try.prog.fieldsOf 82), by kernel_rfl, rfl⟩
theorem sz84 : Sz 84 2 := ⟨by kernel_rfl, .struct (Try.prog.fieldsOf 84), by kernel_rfl, rfl⟩
theorem sz65 : Sz 65 4 := ⟨by kernel_rfl, .struct (Try.prog.fieldsOf 65), by kernel_rfl, rfl⟩
theorem sz69 : Sz 69 14 := ⟨by kernel_rfl, .struct (Try.prog.fieldsOf 69), by kernel_rfl, rfl⟩
/-- A fault stays. -/
def Stick {D : Type} (F : Sx → Sx × D) : Prop := ∀ s, s.e ≠ 0 → (F s).1.e = s.e
theorem manyS_stick {D : Type} {F : Sx → Sx × D} (hF : Stick F) {s : Sx} {i : Nat} (h : (manyS F i s).1.e ≠ 0) : ∀ n, i ≤ n → (manyS F n s).1.e = (manyS F i s).1.e
  | 0, hn => by
    obtain rfl : i = 0 := Nat.le_zero.1 hn
    rfl
  | n + 1, hn => by
    by_cases hi : i = n + 1
    · subst hi; rfl
    · have ih := manyS_stick hF h n (by omega)
      show (F (manyS F n s).1).1.e = _
      rw [hF _ (by rw [ih]; exact h)]
      exact ih
theorem countS_fault {s : Sx} (h : s.e ≠ 0) : countS .pr s 0 = (s, 0) := by show ((takeS s 1).1, (takeS s 1).2.headD 0) = _; rw [takeS_fault h]; rfl
theorem listS_stick {D : Type} {F : Sx → Sx × D} : Stick (listS F) := fun s h => by
  unfold listS
  rw [countS_fault h]
  rfl
theorem nums_stick (l : List Int) : Stick (fun s => numsS .pr s l) := fun s h => by rw [numsS_fault l h]
theorem F9_stick : Stick F9 := nums_stick (nz 9)
theorem F2_stick : Stick F2 := nums_stick (nz 2)
theorem FH_stick : Stick FH := fun s h => by
  have h1 : (numS .pr s 0).1 = s := numS_fault h 0
  show (numsS .pr (listS F2 (numS .pr s 0).1).1 (nz 2)).1.e = s.e
  rw [h1]
  have h2 : (listS F2 s).1.e = s.e := listS_stick s h
  rw [nums_stick (nz 2) _ (by rw [h2]; exact h)]
  exact h2
theorem an_stick : Stick anS := fun s h => by
  have e2 : an2 s = (s, 0) := by
    show ((countS .pr s 0).1, ((countS .pr s 0).2 : Int)) = _
    rw [countS_fault h]
    rfl
  have e3 : (an3 s).1 = s := by unfold an3; rw [e2]; exact numsS_fault _ h
  have e4 : an4 s = (s, false) := by
    unfold an4
    rw [e3]
    show (if (countS .pr s 0).2 > 1 then refuseS (countS .pr s 0).1 11 else (countS .pr s 0).1, (countS .pr s 0).2 == 1) = _
    rw [countS_fault h]
    rfl
  unfold anS
  rw [e4]
  rfl
theorem FE_stick : Stick FE := fun s h => by
  rw [ent_an]
  show (anS (numS .pr s 0).1).1.e = _
  rw [numS_fault h]
  exact an_stick s h
theorem manyS_succ {D : Type} (F : Sx → Sx × D) (n : Nat) (s : Sx) : manyS F (n + 1) s = ((F (manyS F n s).1).1, (manyS F n s).2 ++ [(F (manyS F n s).1).2]) := rfl
/-- A list as far as it was read. -/
theorem Lst.as {D : Type} {w0 ws w : World} {r : Nat} {a : Option Addr} {cap : Nat} {B : List Nat} {t t' : Sx} {q : Nat} {cs : List Value} {o tE sz : Nat} {good : World → List Value → D → Prop} {v : Value} {ps : List (List Value × D)} (h : Lst w0 ws w r a cap B t q cs o tE sz good v ps) (he : t'.e = t.e) (hl : t.e = 0 → t'.l = t.l) : Lst w0 ws w r a cap B t' q cs o tE sz good v ps :=
  ⟨⟨h.rs.rd.as he hl, h.rs.fl, h.rs.th, h.rs.tn, h.rs.q0, h.rs.ql, h.rs.rl, h.rs.ab⟩, h.row, h.cv, h.fr, h.qs, h.sz'⟩
theorem ints_one (l : List Int) : ∀ u ∈ intC l, u.oneCell' = true := fun u hu => by
  obtain ⟨x, _, rfl⟩ := List.mem_map.1 hu
  rfl
theorem rng_alloc (w : World) (c : List Value) (ty : TypeId) : (w.alloc (.cells c.toArray ty)).rangeAt w.heap.size 0 c := rng_new w c c.toArray ty rfl
theorem own_alloc {w : World} {base e m n : Nat} {v : Value} {xs : List Value} (h : w.ownsRow base e m v n xs) (o : Obj) : (w.alloc o).ownsRow base e m v n xs := own_same h (fun x e => Below.heap_alloc w _ x (h.lt x e).2)
theorem num_e {s : Sx} (h : (numS .pr s 0).1.e = 0) : s.e = 0 := Classical.byContradiction fun k => by rw [numS_fault k] at h; exact k h
theorem count_e {s : Sx} (h : (countS .pr s 0).1.e = 0) : s.e = 0 := Classical.byContradiction fun k => by rw [countS_fault k] at h; exact k h
theorem text_e {s : Sx} {z : ByteArray} (h : (textS .pr s z).1.e = 0) : s.e = 0 := Classical.byContradiction fun k => by
  have e : textS .pr s z = ((takeS (countS .pr s 0).1 (countS .pr s 0).2).1, textOf (takeS (countS .pr s 0).1 (countS .pr s 0).2).2) := rfl
  rw [e, countS_fault k] at h
  exact k (by rw [takeS_fault k] at h; exact h)
theorem many_e {D : Type} {F : Sx → Sx × D} (hF : Stick F) {n : Nat} {s : Sx} (h : (manyS F n s).1.e = 0) : s.e = 0 := Classical.byContradiction fun k => by
  have h1 := manyS_stick hF (i := 0) (s := s) k n (Nat.zero_le _)
  exact k (h1.symm.trans h)
theorem anS_len (t : Sx) : (anS t).2.l.length = 3 ∧ (anS t).2.xs.length = 8 := by
  have h3 : (an3 t).2.length = 3 := (numsS_length .pr _ _).trans rfl
  have h8 : (an5 t).2.2.length = 8 := (numsS_length .pr _ _).trans rfl
  unfold anS
  split
  · exact ⟨h3, h8⟩
  · exact ⟨h3, rfl⟩

/-- What ReadAccount answers. -/
def RaP (w : World) (r : Nat) (a : Option Addr) (cap : Nat) (B : List Nat) (t : Sx) (e : Ending) (w' : World) : Prop := ∃ cs d, e = .returned (.agg cs.toArray) ∧ Rdr w' r a cap B (FA t).1 ∧ AccV w.heap.size w' cs d ∧ ((FA t).1.e = 0 → d = (FA t).2) ∧ Turn [r] w w'

set_option maxRecDepth 100000 in
set_option maxHeartbeats 12800000 in
theorem rdAcc {w : World} {r : Nat} {a : Option Addr} {cap : Nat} {B : List Nat} {t : Sx} (h : Rdr w r a cap B t) : Calls Try.prog 47 #[.pointer (some ⟨r, 0, none⟩)] w fun e w' => RaP w r a cap B t e w' := by
  obtain ⟨hR0, hrl, hab⟩ := h.base (.cells #[Value.string { data := #[] }, Value.string { data := #[] }, Value.string { data := #[] }, Value.int .i64 0, Value.int .i64 0, Value.int .i64 0, Value.int .i64 0, Value.int .i64 0, Value.int .i64 0, Value.int .i64 0, Value.int .i64 0, Value.int .i64 0, Value.int .i64 0, Value.int .i64 0, Value.int .i64 0, Value.slice none 0 0, Value.int .i64 0, Value.int .i64 0, Value.slice none 0 0, Value.slice none 0 0] 28)
  have HTh := hide (there_new2 w #[Value.string { data := #[] }, Value.string { data := #[] }, Value.string { data := #[] }, Value.int .i64 0, Value.int .i64 0, Value.int .i64 0, Value.int .i64 0, Value.int .i64 0, Value.int .i64 0, Value.int .i64 0, Value.int .i64 0, Value.int .i64 0, Value.int .i64 0, Value.int .i64 0, Value.int .i64 0, Value.slice none 0 0, Value.int .i64 0, Value.int .i64 0, Value.slice none 0 0, Value.slice none 0 0] 28)
  have hs0 : (w.alloc (.cells #[Value.string { data := #[] }, Value.string { data := #[] }, Value.string { data := #[] }, Value.int .i64 0, Value.int .i64 0, Value.int .i64 0, Value.int .i64 0, Value.int .i64 0, Value.int .i64 0, Value.int .i64 0, Value.int .i64 0, Value.int .i64 0, Value.int .i64 0, Value.int .i64 0, Value.int .i64 0, Value.slice none 0 0, Value.int .i64 0, Value.int .i64 0, Value.slice none 0 0, Value.slice none 0 0] 28)).heap.size = w.heap.size + 1 := by simp
  have HS0 := hide hs0
  have HAb := hide hab
  have HAb2 := hide (fun x hx e => h.hB.lt x hx e)
  have HC0 := hide (rtxt hR0)
  have HFin : Hid (∀ w', Turn [r] (w.alloc (.cells #[Value.string { data := #[] }, Value.string { data := #[] }, Value.string { data := #[] }, Value.int .i64 0, Value.int .i64 0, Value.int .i64 0, Value.int .i64 0, Value.int .i64 0, Value.int .i64 0, Value.int .i64 0, Value.int .i64 0, Value.int .i64 0, Value.int .i64 0, Value.int .i64 0, Value.int .i64 0, Value.slice none 0 0, Value.int .i64 0, Value.int .i64 0, Value.slice none 0 0, Value.slice none 0 0] 28)) w' → Turn [r] w w') := fun w' hT => hT.from_alloc
  have hrw : w.heap.size ≠ r := by have := h.at; omega
  unfold TxtP at HC0
  obtain ⟨⟨s1, nm1⟩, e1⟩ : ∃ T, textS .pr t ByteArray.empty = T := ⟨_, rfl⟩
  obtain ⟨⟨s2, key2⟩, e2⟩ : ∃ T, textS .pr s1 ByteArray.empty = T := ⟨_, rfl⟩
  obtain ⟨⟨s3, pn3, px3⟩, e3⟩ : ∃ T, tiS .pr s2 ByteArray.empty (List.replicate 9 0) = T := ⟨_, rfl⟩
  obtain ⟨⟨s4a, t1⟩, e4a⟩ : ∃ T, numS .pr s3 0 = T := ⟨_, rfl⟩
  obtain ⟨⟨s4b, t2⟩, e4b⟩ : ∃ T, numS .pr s4a 0 = T := ⟨_, rfl⟩
  obtain ⟨⟨s4, t3⟩, e4⟩ : ∃ T, numS .pr s4b 0 = T := ⟨_, rfl⟩
  obtain ⟨⟨s5c, n5⟩, e5c⟩ : ∃ T, countS .pr s4 0 = T := ⟨_, rfl⟩
  obtain ⟨⟨s5, l5⟩, e5⟩ : ∃ T, manyS F9 n5 s5c = T := ⟨_, rfl⟩
  obtain ⟨⟨s6a, n1⟩, e6a⟩ : ∃ T, numS .pr s5 0 = T := ⟨_, rfl⟩
  obtain ⟨⟨s6, n2⟩, e6⟩ : ∃ T, numS .pr s6a 0 = T := ⟨_, rfl⟩
  obtain ⟨⟨s7c, n7⟩, e7c⟩ : ∃ T, countS .pr s6 0 = T := ⟨_, rfl⟩
  obtain ⟨⟨s7, l7⟩, e7⟩ : ∃ T, manyS FH n7 s7c = T := ⟨_, rfl⟩
  obtain ⟨⟨s8c, n8⟩, e8c⟩ : ∃ T, countS .pr s7 0 = T := ⟨_, rfl⟩
  obtain ⟨⟨s8, l8⟩, e8⟩ : ∃ T, manyS FE n8 s8c = T := ⟨_, rfl⟩
  have hpx : px3.length = 9 := by
    have := congrArg (fun T => T.2.2.length) e3
    rw [← this]
    exact (numsS_length .pr _ _).trans rfl
  have a1 : fa1 t = (s1, nm1) := e1
  have a2 : fa2 t = (s2, key2) := by unfold fa2; rw [a1]; exact e2
  have a3 : fa3 t = (s3, pn3, px3) := by unfold fa3; rw [a2]; exact e3
  have a4 : fa4 t = (s4, [t1, t2, t3]) := by
    unfold fa4
    rw [a3]
    show numsS .pr s3 [0, 0, 0] = _
    simp only [numsS, e4a, e4b, e4]
  have a5 : fa5 t = (s5, l5) := by
    unfold fa5 listS
    rw [a4]
    show manyS F9 (countS .pr s4 0).2 (countS .pr s4 0).1 = _
    rw [e5c]
    exact e5
  have a6 : fa6 t = (s6, [n1, n2]) := by
    unfold fa6
    rw [a5]
    show numsS .pr s5 [0, 0] = _
    simp only [numsS, e6a, e6]
  have a7 : fa7 t = (s7, l7) := by
    unfold fa7 listS
    rw [a6]
    show manyS FH (countS .pr s6 0).2 (countS .pr s6 0).1 = _
    rw [e7c]
    exact e7
  have a8 : fa8 t = (s8, l8) := by
    unfold fa8 listS
    rw [a7]
    show manyS FE (countS .pr s7 0).2 (countS .pr s7 0).1 = _
    rw [e8c]
    exact e8
  have hFA : FA t = (s8, ⟨nm1, key2, pn3, px3, [t1, t2, t3], l5, [n1, n2], l7, l8⟩) := by
    unfold FA
    rw [a1, a2, a3, a4, a5, a6, a7, a8]
  have HB : Hid (s8.e = 0 → s7.e = 0 ∧ s5.e = 0 ∧ s3.e = 0 ∧ s2.e = 0 ∧ s1.e = 0) := fun k => by
    have k8 : s8c.e = 0 := many_e FE_stick (n := n8) (by rw [e8]; exact k)
    have k7 : s7.e = 0 := count_e (by rw [e8c]; exact k8)
    have k7c : s7c.e = 0 := many_e FH_stick (n := n7) (by rw [e7]; exact k7)
    have k6 : s6.e = 0 := count_e (by rw [e7c]; exact k7c)
    have k6a : s6a.e = 0 := num_e (by rw [e6]; exact k6)
    have k5 : s5.e = 0 := num_e (by rw [e6a]; exact k6a)
    have k5c : s5c.e = 0 := many_e F9_stick (n := n5) (by rw [e5]; exact k5)
    have k4 : s4.e = 0 := count_e (by rw [e5c]; exact k5c)
    have k4b : s4b.e = 0 := num_e (by rw [e4]; exact k4)
    have k4a : s4a.e = 0 := num_e (by rw [e4b]; exact k4b)
    have k3 : s3.e = 0 := num_e (by rw [e4a]; exact k4a)
    have k2 : s2.e = 0 := text_e (tiS_text (nm := ByteArray.empty) (l := List.replicate 9 0) (by rw [e3]; exact k3))
    have k1 : s1.e = 0 := text_e (z := ByteArray.empty) (by rw [e2]; exact k2)
    exact ⟨k7, k5, k3, k2, k1⟩
  have HTi : Hid (s3.e = 0 → (textS .pr s2 ByteArray.empty).1.e = 0) := fun k => tiS_text (l := List.replicate 9 0) (by rw [e3]; exact k)
  obtain ⟨x1, x2, x3, x4, x5, x6, x7, x8, x9, hpx3⟩ := list9 px3 hpx
  subst hpx3
  unfold RaP
  rw [hFA]
  have HFA := hide hFA
  rw [e1] at HC0
  dsimp only at HC0 ⊢
  have He2 := hide e2
  have He3 := hide e3
  have He4a := hide e4a
  have He4b := hide e4b
  have He4 := hide e4
  have He5c := hide e5c
  have He5 := hide e5
  have He6a := hide e6a
  have He6 := hide e6
  have He7c := hide e7c
  have He7 := hide e7
  have He8c := hide e8c
  have He8 := hide e8
  clear hab h hs0 hR0 e1 e2 e3 e4a e4b e4 e5c e5 e6a e6 e7c e7 e8c e8 a1 a2 a3 a4 a5 a6 a7 a8 hFA hpx
  generalize hq2 : w.heap.size = q2 at *
  have HQ2 := hide hq2
  go_enter Try.func47, Try.ntmps47
  go_wp2_with fail
  clear hq2
  generalize w.alloc (.cells #[Value.string { data := #[] }, Value.string { data := #[] }, Value.string { data := #[] }, Value.int .i64 0, Value.int .i64 0, Value.int .i64 0, Value.int .i64 0, Value.int .i64 0, Value.int .i64 0, Value.int .i64 0, Value.int .i64 0, Value.int .i64 0, Value.int .i64 0, Value.int .i64 0, Value.int .i64 0, Value.slice none 0 0, Value.int .i64 0, Value.int .i64 0, Value.slice none 0 0, Value.slice none 0 0] 28) = w0 at *
  refine HC0.out.mono ?_
  rintro e w1 ⟨nm, rfl, hR, hnm, hT⟩
  have HNm := hide hnm
  have hN0 := Rs.new hR hT hrl HAb.out #[Value.string { data := #[] }, Value.string { data := #[] }, Value.string { data := #[] }, Value.int .i64 0, Value.int .i64 0, Value.int .i64 0, Value.int .i64 0, Value.int .i64 0, Value.int .i64 0, Value.int .i64 0, Value.int .i64 0, Value.int .i64 0, Value.int .i64 0, Value.int .i64 0, Value.int .i64 0, Value.slice none 0 0, Value.int .i64 0, Value.int .i64 0, Value.slice none 0 0, Value.slice none 0 0] 28
  have HThN : Hid ((w1.alloc (.cells #[Value.string { data := #[] }, Value.string { data := #[] }, Value.string { data := #[] }, Value.int .i64 0, Value.int .i64 0, Value.int .i64 0, Value.int .i64 0, Value.int .i64 0, Value.int .i64 0, Value.int .i64 0, Value.int .i64 0, Value.int .i64 0, Value.int .i64 0, Value.int .i64 0, Value.int .i64 0, Value.slice none 0 0, Value.int .i64 0, Value.int .i64 0, Value.slice none 0 0, Value.slice none 0 0] 28)).there w1.heap.size 0 20) := hN0.th
  have hl20 : [Value.string nm, Value.string { data := #[] }, Value.string { data := #[] }, Value.int .i64 0, Value.int .i64 0, Value.int .i64 0, Value.int .i64 0, Value.int .i64 0, Value.int .i64 0, Value.int .i64 0, Value.int .i64 0, Value.int .i64 0, Value.int .i64 0, Value.int .i64 0, Value.int .i64 0, Value.slice none 0 0, Value.int .i64 0, Value.int .i64 0, Value.slice none 0 0, Value.slice none 0 0].length = 20 := rfl
  have HO20 : Hid (∀ v ∈ [Value.string nm, Value.string { data := #[] }, Value.string { data := #[] }, Value.int .i64 0, Value.int .i64 0, Value.int .i64 0, Value.int .i64 0, Value.int .i64 0, Value.int .i64 0, Value.int .i64 0, Value.int .i64 0, Value.int .i64 0, Value.int .i64 0, Value.int .i64 0, Value.int .i64 0, Value.slice none 0 0, Value.int .i64 0, Value.int .i64 0, Value.slice none 0 0, Value.slice none 0 0], v.oneCell' = true) := fun v hv => by
    simp only [List.mem_cons, List.not_mem_nil, or_false] at hv
    rcases hv with rfl | rfl | rfl | rfl | rfl | rfl | rfl | rfl | rfl | rfl | rfl | rfl | rfl | rfl | rfl | rfl | rfl | rfl | rfl | rfl <;> rfl
  have HS1 : Hid (Rs w0 ((w1.alloc (.cells #[Value.string { data := #[] }, Value.string { data := #[] }, Value.string { data := #[] }, Value.int .i64 0, Value.int .i64 0, Value.int .i64 0, Value.int .i64 0, Value.int .i64 0, Value.int .i64 0, Value.int .i64 0, Value.int .i64 0, Value.int .i64 0, Value.int .i64 0, Value.int .i64 0, Value.int .i64 0, Value.slice none 0 0, Value.int .i64 0, Value.int .i64 0, Value.slice none 0 0, Value.slice none 0 0] 28)).setCells w1.heap.size 0 [Value.string nm, Value.string { data := #[] }, Value.string { data := #[] }, Value.int .i64 0, Value.int .i64 0, Value.int .i64 0, Value.int .i64 0, Value.int .i64 0, Value.int .i64 0, Value.int .i64 0, Value.int .i64 0, Value.int .i64 0, Value.int .i64 0, Value.int .i64 0, Value.int .i64 0, Value.slice none 0 0, Value.int .i64 0, Value.int .i64 0, Value.slice none 0 0, Value.slice none 0 0]) r a cap B s1 w1.heap.size [Value.string nm, Value.string { data := #[] }, Value.string { data := #[] }, Value.int .i64 0, Value.int .i64 0, Value.int .i64 0, Value.int .i64 0, Value.int .i64 0, Value.int .i64 0, Value.int .i64 0, Value.int .i64 0, Value.int .i64 0, Value.int .i64 0, Value.int .i64 0, Value.int .i64 0, Value.slice none 0 0, Value.int .i64 0, Value.int .i64 0, Value.slice none 0 0, Value.slice none 0 0]) := hN0.puts 0 [Value.string nm, Value.string { data := #[] }, Value.string { data := #[] }, Value.int .i64 0, Value.int .i64 0, Value.int .i64 0, Value.int .i64 0, Value.int .i64 0, Value.int .i64 0, Value.int .i64 0, Value.int .i64 0, Value.int .i64 0, Value.int .i64 0, Value.int .i64 0, Value.int .i64 0, Value.slice none 0 0, Value.int .i64 0, Value.int .i64 0, Value.slice none 0 0, Value.slice none 0 0] (by simp)
  clear hR hnm hT HC0 hN0
  generalize hcN : [Value.string nm, Value.string { data := #[] }, Value.string { data := #[] }, Value.int .i64 0, Value.int .i64 0, Value.int .i64 0, Value.int .i64 0, Value.int .i64 0, Value.int .i64 0, Value.int .i64 0, Value.int .i64 0, Value.int .i64 0, Value.int .i64 0, Value.int .i64 0, Value.int .i64 0, Value.slice none 0 0, Value.int .i64 0, Value.int .i64 0, Value.slice none 0 0, Value.slice none 0 0] = cN at HS1 HO20 hl20
  have HCN := hide hcN
  go_upto_region 2 with (first | ((with_reducible refine store_sz 28 20 sz28 _ _ w1.heap.size 0 cN hl20 HO20.out ?_ ?_ HThN.out ?_); rfl; rw [← hcN]; rfl) | fail)
  clear hcN
  generalize hq : w1.heap.size = q at *
  generalize (w1.alloc (.cells #[Value.string { data := #[] }, Value.string { data := #[] }, Value.string { data := #[] }, Value.int .i64 0, Value.int .i64 0, Value.int .i64 0, Value.int .i64 0, Value.int .i64 0, Value.int .i64 0, Value.int .i64 0, Value.int .i64 0, Value.int .i64 0, Value.int .i64 0, Value.int .i64 0, Value.int .i64 0, Value.slice none 0 0, Value.int .i64 0, Value.int .i64 0, Value.slice none 0 0, Value.slice none 0 0] 28)).setCells q 0 cN = v1 at *
  clear hq HThN HO20 hl20
  rw [← HCN.out] at HS1
  go_wp2_with fail
  refine (rtxt HS1.out.rd).mono ?_
  rintro e u1 ⟨key, rfl, hR, hkey, hT⟩
  rw [He2.out] at hR hkey
  have HKey := hide hkey
  have hK := HS1.out.call hT hR
  have c1 := hK.cell (i := 1) rfl
  have f1 := hK.fz (i := 1) (by simp)
  have HS2 := hide (hK.put 1 (.string key) (by simp))
  clear hR hT hkey hK HS1
  go_wp2_with fail
  generalize u1.setCell ⟨q, 1, none⟩ (.string key) = v2 at *
  clear c1 f1
  refine (rdPlan HS2.out.rd).mono ?_
  rintro e u2 ⟨pn, rfl, hR, hpn, hT⟩
  rw [He3.out] at hR hpn ⊢
  dsimp only at hR hpn ⊢
  have HPn := hide hpn
  have hK := HS2.out.call hT hR
  have HT9 : Hid (u2.there q 2 10) := fun j hj => by
    have := hK.th (2 + j) (by simp; omega)
    rw [Nat.zero_add] at this
    exact this
  have hl9 : (Value.string pn :: intC [x1, x2, x3, x4, x5, x6, x7, x8, x9]).length = 10 := rfl
  have HO9 : Hid (∀ v ∈ (Value.string pn :: intC [x1, x2, x3, x4, x5, x6, x7, x8, x9]), v.oneCell' = true) := fun v hv => by
    rcases List.mem_cons.1 hv with rfl | hv
    · rfl
    · exact ints_one _ v hv
  have HS3 : Hid (Rs w0 (u2.setCells q 2 (Value.string pn :: intC [x1, x2, x3, x4, x5, x6, x7, x8, x9])) r a cap B s3 q (accL nm key pn [x1, x2, x3, x4, x5, x6, x7, x8, x9] [0, 0, 0] (.slice none 0 0) [0, 0] (.slice none 0 0) (.slice none 0 0))) := hK.puts 2 _ (by simp [hl9])
  clear hR hpn hT hK HS2
  generalize hc9 : (Value.string pn :: intC [x1, x2, x3, x4, x5, x6, x7, x8, x9]) = c9 at HT9 hl9 HO9 HS3 ⊢
  clear hc9
  go_upto_region 4 with (first | ((with_reducible refine store_sz 23 10 sz23 _ _ q 2 c9 hl9 HO9.out ?_ ?_ HT9.out ?_); rfl; rfl) | fail)
  generalize u2.setCells q 2 c9 = v3 at *
  clear HT9 hl9 HO9
  go_wp2_with fail
  refine (ri64 HS3.out.rd).mono ?_
  rintro e p3 ⟨rfl, hR, hT⟩
  rw [He4a.out] at hR ⊢
  dsimp only at hR ⊢
  have hK := HS3.out.call hT hR
  have c1 := hK.cell (i := 12) rfl
  have f1 := hK.fz (i := 12) (by simp [accL, intC])
  have HS4 : Hid (Rs w0 (p3.setCell ⟨q, 12, none⟩ (.int .i64 t1)) r a cap B s4a q (accL nm key pn [x1, x2, x3, x4, x5, x6, x7, x8, x9] [t1, 0, 0] (.slice none 0 0) [0, 0] (.slice none 0 0) (.slice none 0 0))) := hK.put 12 (.int .i64 t1) (by simp [accL, intC])
  clear hR hT hK HS3
  go_wp2_with fail
  generalize p3.setCell ⟨q, 12, none⟩ (.int .i64 t1) = v4 at *
  clear c1 f1
  refine (ri64 HS4.out.rd).mono ?_
  rintro e p4 ⟨rfl, hR, hT⟩
  rw [He4b.out] at hR ⊢
  dsimp only at hR ⊢
  have hK := HS4.out.call hT hR
  have c1 := hK.cell (i := 13) rfl
  have f1 := hK.fz (i := 13) (by simp [accL, intC])
  have HS5 : Hid (Rs w0 (p4.setCell ⟨q, 13, none⟩ (.int .i64 t2)) r a cap B s4b q (accL nm key pn [x1, x2, x3, x4, x5, x6, x7, x8, x9] [t1, t2, 0] (.slice none 0 0) [0, 0] (.slice none 0 0) (.slice none 0 0))) := hK.put 13 (.int .i64 t2) (by simp [accL, intC])
  clear hR hT hK HS4
  go_wp2_with fail
  generalize p4.setCell ⟨q, 13, none⟩ (.int .i64 t2) = v5 at *
  clear c1 f1
  refine (ri64 HS5.out.rd).mono ?_
  rintro e p5 ⟨rfl, hR, hT⟩
  rw [He4.out] at hR ⊢
  dsimp only at hR ⊢
  have hK := HS5.out.call hT hR
  have c1 := hK.cell (i := 14) rfl
  have f1 := hK.fz (i := 14) (by simp [accL, intC])
  have HS6 : Hid (Rs w0 (p5.setCell ⟨q, 14, none⟩ (.int .i64 t3)) r a cap B s4 q (accL nm key pn [x1, x2, x3, x4, x5, x6, x7, x8, x9] [t1, t2, t3] (.slice none 0 0) [0, 0] (.slice none 0 0) (.slice none 0 0))) := hK.put 14 (.int .i64 t3) (by simp [accL, intC])
  clear hR hT hK HS5
  go_wp2_with fail
  generalize p5.setCell ⟨q, 14, none⟩ (.int .i64 t3) = v6 at *
  clear c1 f1
  have hn5 := HS6.out.rd.by
  rw [He5c.out] at hn5
  refine (ru8 HS6.out.rd).mono ?_
  rintro e p6 ⟨rfl, hR, hT⟩
  rw [He5c.out] at hR ⊢
  dsimp only at hR hn5 ⊢
  have HS7 := hide (HS6.out.call hT hR)
  clear hR hT HS6
  go_upto_block 0 with fail
  go_cut [5, 6] from 14 to 167 (fun _ _ wx => ∃ (vl : Value) (pl : List (List Value × List Int)), Hid (Lst w0 p6 wx r a cap B s5 q (accL nm key pn [x1, x2, x3, x4, x5, x6, x7, x8, x9] [t1, t2, t3] (vl) [0, 0] (.slice none 0 0) (.slice none 0 0)) 15 82 9 IntsG vl pl) ∧ Hid (s5.e = 0 → pl.map Prod.snd = l5))
  case first =>
    go_wp2_with fail
    go_loopw [5, 6] (fun i _ wr => ∃ (j : Nat) (vl : Value) (pl : List (List Value × List Int)), j ≤ n5 ∧ i = .int .i64 (j : Nat) ∧ Hid (pl.length = j) ∧ Hid (Lst w0 p6 wr r a cap B (manyS F9 j s5c).1 q (accL nm key pn [x1, x2, x3, x4, x5, x6, x7, x8, x9] [t1, t2, t3] (vl) [0, 0] (.slice none 0 0) (.slice none 0 0)) 15 82 9 IntsG vl pl) ∧ Hid (pl.map Prod.snd = (manyS F9 j s5c).2)) (fun i _ _ => n5 - (intOf i).toNat)
    case atStart => exact ⟨0, _, [], Nat.zero_le _, rfl, rfl, Lst.new HS7.out rfl, rfl⟩
    case round =>
      obtain ⟨j, vl, pl, hj, rfl, HLen, HL, HMap⟩ := hrel
      have hc2 := HL.out.rs.rd.c2
      by_cases hlt : j < n5
      · have hsu := manyS_succ F9 j s5c
        have HSu := hide hsu
        clear hsu
        have HDone : Hid ((manyS F9 j s5c).1.e ≠ 0 → s5.e = (manyS F9 j s5c).1.e) := fun k => by
          have := manyS_stick F9_stick k n5 (Nat.le_of_lt hlt)
          rw [He5.out] at this
          exact this
        generalize manyS F9 j s5c = M at *
        obtain ⟨S, LM⟩ := M
        dsimp only at HL HMap HSu HDone hc2
        by_cases he : S.e = 0
        · rw [he] at hc2
          obtain ⟨⟨r1, y1⟩, g1⟩ : ∃ T, numS .pr S 0 = T := ⟨_, rfl⟩
          obtain ⟨⟨r2, y2⟩, g2⟩ : ∃ T, numS .pr r1 0 = T := ⟨_, rfl⟩
          obtain ⟨⟨r3, y3⟩, g3⟩ : ∃ T, numS .pr r2 0 = T := ⟨_, rfl⟩
          obtain ⟨⟨r4, y4⟩, g4⟩ : ∃ T, numS .pr r3 0 = T := ⟨_, rfl⟩
          obtain ⟨⟨r5, y5⟩, g5⟩ : ∃ T, numS .pr r4 0 = T := ⟨_, rfl⟩
          obtain ⟨⟨r6, y6⟩, g6⟩ : ∃ T, numS .pr r5 0 = T := ⟨_, rfl⟩
          obtain ⟨⟨r7, y7⟩, g7⟩ : ∃ T, numS .pr r6 0 = T := ⟨_, rfl⟩
          obtain ⟨⟨r8, y8⟩, g8⟩ : ∃ T, numS .pr r7 0 = T := ⟨_, rfl⟩
          obtain ⟨⟨r9, y9⟩, g9⟩ : ∃ T, numS .pr r8 0 = T := ⟨_, rfl⟩
          have hF : F9 S = (r9, [y1, y2, y3, y4, y5, y6, y7, y8, y9]) := by
            show numsS .pr S [0, 0, 0, 0, 0, 0, 0, 0, 0] = _
            simp only [numsS, g1, g2, g3, g4, g5, g6, g7, g8, g9]
          have HF := hide hF
          have G1 := hide g1
          have G2 := hide g2
          have G3 := hide g3
          have G4 := hide g4
          have G5 := hide g5
          have G6 := hide g6
          have G7 := hide g7
          have G8 := hide g8
          have G9 := hide g9
          clear hF g1 g2 g3 g4 g5 g6 g7 g8 g9
          have hrl' : r < wr.heap.size := HL.out.rs.rd.at
          have HAb' := hide (fun x hx e => HL.out.rs.rd.hB.lt x hx e)
          go_wp2_with fail
          refine (ri64 HL.out.rs.rd).mono ?_
          rintro e k1 ⟨rfl, hR, hT⟩
          rw [G1.out] at hR ⊢
          dsimp only at hR ⊢
          have HE1 := hide (Rs.new hR hT hrl' HAb'.out #[Value.int .i64 y1, Value.int .i64 0, Value.int .i64 0, Value.int .i64 0, Value.int .i64 0, Value.int .i64 0, Value.int .i64 0, Value.int .i64 0, Value.int .i64 0] 82)
          clear hR hT
          go_wp2_with fail
          generalize hqe : k1.heap.size = qe at *
          generalize k1.alloc (.cells #[Value.int .i64 y1, Value.int .i64 0, Value.int .i64 0, Value.int .i64 0, Value.int .i64 0, Value.int .i64 0, Value.int .i64 0, Value.int .i64 0, Value.int .i64 0] 82) = m1 at *
          clear hqe
          refine (ri64 HE1.out.rd).mono ?_
          rintro e k2 ⟨rfl, hR, hT⟩
          rw [G2.out] at hR ⊢
          dsimp only at hR ⊢
          have hK := HE1.out.call hT hR
          have c1 := hK.cell (i := 1) rfl
          have f1 := hK.fz (i := 1) (by simp)
          have HE2 := hide (hK.put 1 (.int .i64 y2) (by simp))
          clear hR hT hK HE1
          go_wp2_with fail
          generalize k2.setCell ⟨qe, 1, none⟩ (.int .i64 y2) = m2 at *
          clear c1 f1
          refine (ri64 HE2.out.rd).mono ?_
          rintro e k3 ⟨rfl, hR, hT⟩
          rw [G3.out] at hR ⊢
          dsimp only at hR ⊢
          have hK := HE2.out.call hT hR
          have c1 := hK.cell (i := 2) rfl
          have f1 := hK.fz (i := 2) (by simp)
          have HE3 := hide (hK.put 2 (.int .i64 y3) (by simp))
          clear hR hT hK HE2
          go_wp2_with fail
          generalize k3.setCell ⟨qe, 2, none⟩ (.int .i64 y3) = m3 at *
          clear c1 f1
          refine (ri64 HE3.out.rd).mono ?_
          rintro e k4 ⟨rfl, hR, hT⟩
          rw [G4.out] at hR ⊢
          dsimp only at hR ⊢
          have hK := HE3.out.call hT hR
          have c1 := hK.cell (i := 3) rfl
          have f1 := hK.fz (i := 3) (by simp)
          have HE4 := hide (hK.put 3 (.int .i64 y4) (by simp))
          clear hR hT hK HE3
          go_wp2_with fail
          generalize k4.setCell ⟨qe, 3, none⟩ (.int .i64 y4) = m4 at *
          clear c1 f1
          refine (ri64 HE4.out.rd).mono ?_
          rintro e k5 ⟨rfl, hR, hT⟩
          rw [G5.out] at hR ⊢
          dsimp only at hR ⊢
          have hK := HE4.out.call hT hR
          have c1 := hK.cell (i := 4) rfl
          have f1 := hK.fz (i := 4) (by simp)
          have HE5 := hide (hK.put 4 (.int .i64 y5) (by simp))
          clear hR hT hK HE4
          go_wp2_with fail
          generalize k5.setCell ⟨qe, 4, none⟩ (.int .i64 y5) = m5 at *
          clear c1 f1
          refine (ri64 HE5.out.rd).mono ?_
          rintro e k6 ⟨rfl, hR, hT⟩
          rw [G6.out] at hR ⊢
          dsimp only at hR ⊢
          have hK := HE5.out.call hT hR
          have c1 := hK.cell (i := 5) rfl
          have f1 := hK.fz (i := 5) (by simp)
          have HE6 := hide (hK.put 5 (.int .i64 y6) (by simp))
          clear hR hT hK HE5
          go_wp2_with fail
          generalize k6.setCell ⟨qe, 5, none⟩ (.int .i64 y6) = m6 at *
          clear c1 f1
          refine (ri64 HE6.out.rd).mono ?_
          rintro e k7 ⟨rfl, hR, hT⟩
          rw [G7.out] at hR ⊢
          dsimp only at hR ⊢
          have hK := HE6.out.call hT hR
          have c1 := hK.cell (i := 6) rfl
          have f1 := hK.fz (i := 6) (by simp)
          have HE7 := hide (hK.put 6 (.int .i64 y7) (by simp))
          clear hR hT hK HE6
          go_wp2_with fail
          generalize k7.setCell ⟨qe, 6, none⟩ (.int .i64 y7) = m7 at *
          clear c1 f1
          refine (ri64 HE7.out.rd).mono ?_
          rintro e k8 ⟨rfl, hR, hT⟩
          rw [G8.out] at hR ⊢
          dsimp only at hR ⊢
          have hK := HE7.out.call hT hR
          have c1 := hK.cell (i := 7) rfl
          have f1 := hK.fz (i := 7) (by simp)
          have HE8 := hide (hK.put 7 (.int .i64 y8) (by simp))
          clear hR hT hK HE7
          go_wp2_with fail
          generalize k8.setCell ⟨qe, 7, none⟩ (.int .i64 y8) = m8 at *
          clear c1 f1
          refine (ri64 HE8.out.rd).mono ?_
          rintro e k9 ⟨rfl, hR, hT⟩
          rw [G9.out] at hR ⊢
          dsimp only at hR ⊢
          have hK := HE8.out.call hT hR
          have c1 := hK.cell (i := 8) rfl
          have f1 := hK.fz (i := 8) (by simp)
          have HE9 := hide (hK.put 8 (.int .i64 y9) (by simp))
          clear hR hT hK HE8
          go_upto_region 20 with fail
          generalize k9.setCell ⟨qe, 8, none⟩ (.int .i64 y9) = m9 at *
          clear c1 f1
          have HFl : Hid (m9.rangeAt qe 0 [Value.int .i64 y1, Value.int .i64 y2, Value.int .i64 y3, Value.int .i64 y4, Value.int .i64 y5, Value.int .i64 y6, Value.int .i64 y7, Value.int .i64 y8, Value.int .i64 y9]) := HE9.out.fl
          have hqr : q ≠ r := by have := HL.out.rs.q0; have := HL.out.rs.rl; omega
          have hbq : m9.heap[q]? = wr.heap[q]? := HE9.out.tn.block q HL.out.rs.ql (by simp [hqr])
          have cq := (World.cell?_of_block (a := ⟨q, 15, none⟩) hbq).trans (HL.out.rs.cell (i := 15) (v := vl) rfl)
          have HOwn := hide (own_alloc (own_same HL.out.row.own (w' := m9) (fun x e => HE9.out.tn.block x (HL.out.row.own.lt x e).2 (by have := (HL.out.row.own.lt x e).1; have := HL.out.qs; have := HL.out.rs.rl; have := HL.out.rs.q0; simp; omega))) (.cells #[Value.int .i64 y1, Value.int .i64 y2, Value.int .i64 y3, Value.int .i64 y4, Value.int .i64 y5, Value.int .i64 y6, Value.int .i64 y7, Value.int .i64 y8, Value.int .i64 y9] 82))
          have HRg := hide (rng_alloc m9 [Value.int .i64 y1, Value.int .i64 y2, Value.int .i64 y3, Value.int .i64 y4, Value.int .i64 y5, Value.int .i64 y6, Value.int .i64 y7, Value.int .i64 y8, Value.int .i64 y9] 82)
          have hsa : (m9.alloc (.cells #[Value.int .i64 y1, Value.int .i64 y2, Value.int .i64 y3, Value.int .i64 y4, Value.int .i64 y5, Value.int .i64 y6, Value.int .i64 y7, Value.int .i64 y8, Value.int .i64 y9] 82)).heap.size = m9.heap.size + 1 := by simp
          have HSa := hide hsa
          have HBq : Hid (∀ w' : World, (m9.alloc (.cells #[Value.int .i64 y1, Value.int .i64 y2, Value.int .i64 y3, Value.int .i64 y4, Value.int .i64 y5, Value.int .i64 y6, Value.int .i64 y7, Value.int .i64 y8, Value.int .i64 y9] 82)).grownBy w' vl.ownBlock → w'.heap[q]? = wr.heap[q]?) := fun w' hg => by
            have hl : q < m9.heap.size := Nat.lt_of_lt_of_le HL.out.rs.ql HE9.out.tn.size
            exact (hg.block q (by rw [HSa.out]; omega) (fun e => by have := (HL.out.row.own.lt q e.symm).1; have := HL.out.qs; omega)).trans ((Below.heap_alloc m9 _ q hl).trans hbq)
          have hplen : pl.length ≤ 1000 := by rw [HLen.out]; omega
          have hbase' : p6.heap.size ≤ (m9.alloc (.cells #[Value.int .i64 y1, Value.int .i64 y2, Value.int .i64 y3, Value.int .i64 y4, Value.int .i64 y5, Value.int .i64 y6, Value.int .i64 y7, Value.int .i64 y8, Value.int .i64 y9] 82)).heap.size := by rw [HSa.out]; have := HL.out.sz'; have := HE9.out.tn.size; omega
          clear hsa hbq
          go_wp2_with (first | ((with_reducible refine load_sz 82 9 sz82 _ qe 0 [Value.int .i64 y1, Value.int .i64 y2, Value.int .i64 y3, Value.int .i64 y4, Value.int .i64 y5, Value.int .i64 y6, Value.int .i64 y7, Value.int .i64 y8, Value.int .i64 y9] rfl ?_ HFl.out ?_); rfl) | (at_builtin; refine append1 rfl _ _ 24 82 9 72 _ Try.underlying24 info_lot rfl (by decide) (by decide) rfl p6.heap.size vl pl.length _ rfl HOwn.out m9.heap.size [Value.int .i64 y1, Value.int .i64 y2, Value.int .i64 y3, Value.int .i64 y4, Value.int .i64 y5, Value.int .i64 y6, Value.int .i64 y7, Value.int .i64 y8, Value.int .i64 y9] rfl rfl HRg.out (ints_one [y1, y2, y3, y4, y5, y6, y7, y8, y9]) hplen hbase' ?_; intro v2 w2 h1 h2 h3; obtain ⟨va2, vc2, rfl⟩ := own_form h1; have HA1 := hide h1; have HA2 := hide h2; have HA3 := hide h3; have cq2 := (World.cell?_of_block (a := ⟨q, 15, none⟩) (HBq.out w2 h2)).trans (HL.out.rs.cell (i := 15) (v := vl) rfl); have fq2 := (World.frozen?_of_block (a := ⟨q, 15, none⟩) (HBq.out w2 h2)).trans (HL.out.rs.fz (i := 15) (by simp [accL, intC])); clear h1 h2 h3) | fail)
          have HPush := hide (HL.out.push (d := [y1, y2, y3, y4, y5, y6, y7, y8, y9]) ints_stays HE9.out.tn HE9.out.rd rfl rfl (fun x hx => (lead_ints (l := [y1, y2, y3, y4, y5, y6, y7, y8, y9]) hx).elim) _ HA1.out HA2.out HA3.out)
          go_roundw
          case rel => exact ⟨j + 1, .slice va2 (pl.length + 1) vc2, pl ++ [(intC [y1, y2, y3, y4, y5, y6, y7, y8, y9], [y1, y2, y3, y4, y5, y6, y7, y8, y9])], hlt, by go_num, show _ = _ by rw [List.length_append, HLen.out]; rfl, by rw [HSu.out, HF.out]; exact HPush.out, show _ = _ by rw [HSu.out, HF.out, List.map_append, HMap.out]; rfl⟩
          case measure => simp [intOf]; omega
        · have hne : ¬ ((S.e : Nat) : Int) = 0 := by omega
          have hs5 := HDone.out he
          go_wp2_with fail
          go_meet
          case rel => exact ⟨vl, pl, HL.out.as hs5 (fun k => absurd k he), fun k => absurd (hs5.symm.trans k) he⟩
      · obtain rfl : j = n5 := by omega
        rw [He5.out] at HL HMap
        go_wp2_with fail
        go_meet
        case rel => exact ⟨vl, pl, HL, fun _ => HMap.out⟩
  case rest =>
    rename World => w7
    obtain ⟨vl, pl, HL5, HM5⟩ := hcut
    have HS8 := hide HL5.out.rs
    have HQ5 : Hid (q < p6.heap.size ∧ r < p6.heap.size) := ⟨HL5.out.qs, Nat.lt_of_lt_of_le HL5.out.rs.rl (Nat.le_trans HL5.out.rs.q0 (Nat.le_of_lt HL5.out.qs))⟩
    have hal : (accL nm key pn [x1, x2, x3, x4, x5, x6, x7, x8, x9] [t1, t2, t3] vl [0, 0] (.slice none 0 0) (.slice none 0 0)).length = 20 := rfl
    go_wp2_with fail
    refine (ri64 HS8.out.rd).mono ?_
    rintro e p7 ⟨rfl, hR, hT⟩
    rw [He6a.out] at hR ⊢
    dsimp only at hR ⊢
    have hK := HS8.out.call hT hR
    have c1 := hK.cell (i := 16) rfl
    have f1 := hK.fz (i := 16) (by simp [accL, intC])
    have HS9 : Hid (Rs w0 (p7.setCell ⟨q, 16, none⟩ (.int .i64 n1)) r a cap B s6a q (accL nm key pn [x1, x2, x3, x4, x5, x6, x7, x8, x9] [t1, t2, t3] (vl) [n1, 0] (.slice none 0 0) (.slice none 0 0))) := hK.put 16 (.int .i64 n1) (by simp [accL, intC])
    have HFr8 : Hid (Fr q r w7 (p7.setCell ⟨q, 16, none⟩ (.int .i64 n1))) := ((Fr.refl q r w7).turn hT).set 16 _
    clear hR hT hK HS8
    go_wp2_with fail
    generalize p7.setCell ⟨q, 16, none⟩ (.int .i64 n1) = v8 at *
    clear c1 f1
    refine (ri64 HS9.out.rd).mono ?_
    rintro e p8 ⟨rfl, hR, hT⟩
    rw [He6.out] at hR ⊢
    dsimp only at hR ⊢
    have hK := HS9.out.call hT hR
    have c1 := hK.cell (i := 17) rfl
    have f1 := hK.fz (i := 17) (by simp [accL, intC])
    have HS10 : Hid (Rs w0 (p8.setCell ⟨q, 17, none⟩ (.int .i64 n2)) r a cap B s6 q (accL nm key pn [x1, x2, x3, x4, x5, x6, x7, x8, x9] [t1, t2, t3] (vl) [n1, n2] (.slice none 0 0) (.slice none 0 0))) := hK.put 17 (.int .i64 n2) (by simp [accL, intC])
    have HFr9 : Hid (Fr q r w7 (p8.setCell ⟨q, 17, none⟩ (.int .i64 n2))) := (HFr8.out.turn hT).set 17 _
    clear hR hT hK HS9
    go_wp2_with fail
    generalize p8.setCell ⟨q, 17, none⟩ (.int .i64 n2) = v9 at *
    clear c1 f1
    have hn7 := HS10.out.rd.by
    rw [He7c.out] at hn7
    refine (ru8 HS10.out.rd).mono ?_
    rintro e p9 ⟨rfl, hR, hT⟩
    rw [He7c.out] at hR ⊢
    dsimp only at hR hn7 ⊢
    have HS11 := hide (HS10.out.call hT hR)
    have HRow5 := hide (HL5.out.row.fr ints_stays (HFr9.out.turn hT) HQ5.out.1 HQ5.out.2)
    clear hR hT HS10 HFr8 HFr9 HL5 hal
    go_upto_block 2 with fail
    go_cut [7, 8, 9, 10, 11] from 14 to 167 (fun _ _ _ _ _ wx => ∃ (vh : Value) (ph : List (List Value × HoldD)), Hid (Lst w0 p9 wx r a cap B s7 q (accL nm key pn [x1, x2, x3, x4, x5, x6, x7, x8, x9] [t1, t2, t3] (vl) [n1, n2] (vh) (.slice none 0 0)) 18 65 4 HoldG vh ph) ∧ Hid (s7.e = 0 → ph.map Prod.snd = l7))
    case first =>
      go_wp2_with fail
      go_loopw [7, 8, 9, 10, 11] (fun i _ _ _ _ wr => ∃ (j : Nat) (vh : Value) (ph : List (List Value × HoldD)), j ≤ n7 ∧ i = .int .i64 (j : Nat) ∧ Hid (ph.length = j) ∧ Hid (Lst w0 p9 wr r a cap B (manyS FH j s7c).1 q (accL nm key pn [x1, x2, x3, x4, x5, x6, x7, x8, x9] [t1, t2, t3] (vl) [n1, n2] (vh) (.slice none 0 0)) 18 65 4 HoldG vh ph) ∧ Hid ((manyS FH j s7c).1.e = 0 → ph.map Prod.snd = (manyS FH j s7c).2)) (fun i _ _ _ _ _ => n7 - (intOf i).toNat)
      case atStart => exact ⟨0, _, [], Nat.zero_le _, rfl, rfl, Lst.new HS11.out rfl, fun _ => rfl⟩
      case round =>
        obtain ⟨j, vh, ph, hj, rfl, HLenH, HLH, HMapH⟩ := hrel
        have hc2 := HLH.out.rs.rd.c2
        by_cases hlt : j < n7
        · have hsu := manyS_succ FH j s7c
          have HSu := hide hsu
          clear hsu
          have HDone : Hid ((manyS FH j s7c).1.e ≠ 0 → s7.e = (manyS FH j s7c).1.e) := fun k => by
            have := manyS_stick FH_stick k n7 (Nat.le_of_lt hlt)
            rw [He7.out] at this
            exact this
          generalize manyS FH j s7c = M at *
          obtain ⟨SH, LMH⟩ := M
          dsimp only at HLH HMapH HSu HDone hc2
          by_cases he : SH.e = 0
          · rw [he] at hc2
            obtain ⟨⟨g1, idv⟩, i1⟩ : ∃ T, numS .pr SH 0 = T := ⟨_, rfl⟩
            obtain ⟨⟨g2, m⟩, i2⟩ : ∃ T, countS .pr g1 0 = T := ⟨_, rfl⟩
            obtain ⟨⟨g3, lp⟩, i3⟩ : ∃ T, manyS F2 m g2 = T := ⟨_, rfl⟩
            obtain ⟨⟨g4, ov⟩, i4⟩ : ∃ T, numS .pr g3 0 = T := ⟨_, rfl⟩
            obtain ⟨⟨g5, un⟩, i5⟩ : ∃ T, numS .pr g4 0 = T := ⟨_, rfl⟩
            have hFH : FH SH = (g5, ⟨idv, lp, [ov, un]⟩) := by
              have hl : listS F2 g1 = (g3, lp) := by
                unfold listS
                rw [i2]
                exact i3
              have hn : numsS .pr g3 (nz 2) = (g5, [ov, un]) := by
                show numsS .pr g3 [0, 0] = _
                simp only [numsS, i4, i5]
              unfold FH
              rw [i1]
              dsimp only
              rw [hl]
              dsimp only
              rw [hn]
            have HFH := hide hFH
            have HE5 : Hid (g5.e = 0 → g3.e = 0) := fun k => num_e (by rw [i4]; exact num_e (by rw [i5]; exact k))
            have I1 := hide i1
            have I2 := hide i2
            have I3 := hide i3
            have I4 := hide i4
            have I5 := hide i5
            clear i1 i2 i3 i4 i5 hFH
            have hrlH : r < wr.heap.size := HLH.out.rs.rd.at
            have HAbH := hide (fun x hx e => HLH.out.rs.rd.hB.lt x hx e)
            go_wp2_with fail
            refine (ri64 HLH.out.rs.rd).mono ?_
            rintro e k1 ⟨rfl, hR, hT⟩
            rw [I1.out] at hR ⊢
            dsimp only at hR ⊢
            have HB1 := hide (Rs.new hR hT hrlH HAbH.out #[Value.int .i64 idv, .slice none 0 0, .int .i64 0, .int .i64 0] 65)
            clear hR hT
            go_wp2_with fail
            generalize hqh : k1.heap.size = qh at *
            generalize k1.alloc (.cells #[Value.int .i64 idv, .slice none 0 0, .int .i64 0, .int .i64 0] 65) = b1 at *
            clear hqh
            have hm := HB1.out.rd.by
            rw [I2.out] at hm
            refine (ru8 HB1.out.rd).mono ?_
            rintro e b2 ⟨rfl, hR, hT⟩
            rw [I2.out] at hR ⊢
            dsimp only at hR hm ⊢
            have HB2 : Hid (Rs wr b2 r a cap B g2 qh [.int .i64 idv, .slice none 0 0, .int .i64 0, .int .i64 0]) := HB1.out.call hT hR
            clear hR hT HB1
            go_upto_block 4 with fail
            go_cut [10, 11] from 104 to 128 (fun _ _ wx => ∃ (vp : Value) (pp : List (List Value × List Int)), Hid (Lst wr b2 wx r a cap B g3 qh [.int .i64 idv, vp, .int .i64 0, .int .i64 0] 1 84 2 IntsG vp pp) ∧ Hid (g3.e = 0 → pp.map Prod.snd = lp))
            case first =>
              go_wp2_with fail
              go_loopw [10, 11] (fun i _ wi => ∃ (jj : Nat) (vp : Value) (pp : List (List Value × List Int)), jj ≤ m ∧ i = .int .i64 (jj : Nat) ∧ Hid (pp.length = jj) ∧ Hid (Lst wr b2 wi r a cap B (manyS F2 jj g2).1 qh [.int .i64 idv, vp, .int .i64 0, .int .i64 0] 1 84 2 IntsG vp pp) ∧ Hid (pp.map Prod.snd = (manyS F2 jj g2).2)) (fun i _ _ => m - (intOf i).toNat)
              case atStart => exact ⟨0, _, [], Nat.zero_le _, rfl, rfl, Lst.new HB2.out rfl, rfl⟩
              case round =>
                obtain ⟨jj, vp, pp, hjj, rfl, HLen, HL, HMap⟩ := hrel
                have hd2 := HL.out.rs.rd.c2
                by_cases hltt : jj < m
                · have hsu := manyS_succ F2 jj g2
                  have HSuI := hide hsu
                  clear hsu
                  have HDoneI : Hid ((manyS F2 jj g2).1.e ≠ 0 → g3.e = (manyS F2 jj g2).1.e) := fun k => by
                    have := manyS_stick F2_stick k m (Nat.le_of_lt hltt)
                    rw [I3.out] at this
                    exact this
                  generalize manyS F2 jj g2 = M at *
                  obtain ⟨S, LM⟩ := M
                  dsimp only at HL HMap HSuI HDoneI hd2
                  by_cases hee : S.e = 0
                  · rw [hee] at hd2
                    obtain ⟨⟨r1, y1⟩, g1⟩ : ∃ T, numS .pr S 0 = T := ⟨_, rfl⟩
                    obtain ⟨⟨r2, y2⟩, g2⟩ : ∃ T, numS .pr r1 0 = T := ⟨_, rfl⟩
                    have hF : F2 S = (r2, [y1, y2]) := by
                      show numsS .pr S [0, 0] = _
                      simp only [numsS, g1, g2]
                    have HF := hide hF
                    have G1 := hide g1
                    have G2 := hide g2
                    clear hF g1 g2
                    have hrl' : r < wr.heap.size := HL.out.rs.rd.at
                    have HAb' := hide (fun x hx e => HL.out.rs.rd.hB.lt x hx e)
                    go_wp2_with fail
                    refine (ri64 HL.out.rs.rd).mono ?_
                    rintro e k1 ⟨rfl, hR, hT⟩
                    rw [G1.out] at hR ⊢
                    dsimp only at hR ⊢
                    have HE1 := hide (Rs.new hR hT hrl' HAb'.out #[Value.int .i64 y1, Value.int .i64 0] 84)
                    clear hR hT
                    go_wp2_with fail
                    generalize hqe : k1.heap.size = qe at *
                    generalize k1.alloc (.cells #[Value.int .i64 y1, Value.int .i64 0] 84) = m1 at *
                    clear hqe
                    refine (ri64 HE1.out.rd).mono ?_
                    rintro e k2 ⟨rfl, hR, hT⟩
                    rw [G2.out] at hR ⊢
                    dsimp only at hR ⊢
                    have hK := HE1.out.call hT hR
                    have c1 := hK.cell (i := 1) rfl
                    have f1 := hK.fz (i := 1) (by simp)
                    have HE2 := hide (hK.put 1 (.int .i64 y2) (by simp))
                    clear hR hT hK HE1
                    go_upto_region 34 with fail
                    generalize k2.setCell ⟨qe, 1, none⟩ (.int .i64 y2) = m2 at *
                    clear c1 f1
                    have HFl : Hid (m2.rangeAt qe 0 [Value.int .i64 y1, Value.int .i64 y2]) := HE2.out.fl
                    have hqr : qh ≠ r := by have := HL.out.rs.q0; have := HL.out.rs.rl; omega
                    have hbq : m2.heap[qh]? = wr.heap[qh]? := HE2.out.tn.block qh HL.out.rs.ql (by simp [hqr])
                    have cq := (World.cell?_of_block (a := ⟨qh, 1, none⟩) hbq).trans (HL.out.rs.cell (i := 1) (v := vp) rfl)
                    have HOwn := hide (own_alloc (own_same HL.out.row.own (w' := m2) (fun x e => HE2.out.tn.block x (HL.out.row.own.lt x e).2 (by have := (HL.out.row.own.lt x e).1; have := HL.out.qs; have := HL.out.rs.rl; have := HL.out.rs.q0; simp; omega))) (.cells #[Value.int .i64 y1, Value.int .i64 y2] 84))
                    have HRg := hide (rng_alloc m2 [Value.int .i64 y1, Value.int .i64 y2] 84)
                    have hsa : (m2.alloc (.cells #[Value.int .i64 y1, Value.int .i64 y2] 84)).heap.size = m2.heap.size + 1 := by simp
                    have HSa := hide hsa
                    have HBq : Hid (∀ w' : World, (m2.alloc (.cells #[Value.int .i64 y1, Value.int .i64 y2] 84)).grownBy w' vp.ownBlock → w'.heap[qh]? = wr.heap[qh]?) := fun w' hg => by
                      have hl : qh < m2.heap.size := Nat.lt_of_lt_of_le HL.out.rs.ql HE2.out.tn.size
                      exact (hg.block qh (by rw [HSa.out]; omega) (fun e => by have := (HL.out.row.own.lt qh e.symm).1; have := HL.out.qs; omega)).trans ((Below.heap_alloc m2 _ qh hl).trans hbq)
                    have hplen : pp.length ≤ 1000 := by rw [HLen.out]; omega
                    have hbase' : b2.heap.size ≤ (m2.alloc (.cells #[Value.int .i64 y1, Value.int .i64 y2] 84)).heap.size := by rw [HSa.out]; have := HL.out.sz'; have := HE2.out.tn.size; omega
                    clear hsa hbq
                    go_wp2_with (first | ((with_reducible refine load_sz 84 2 sz84 _ qe 0 [Value.int .i64 y1, Value.int .i64 y2] rfl ?_ HFl.out ?_); rfl) | (at_builtin; refine append1 rfl _ _ 63 84 2 16 _ Try.underlying63 info_part rfl (by decide) (by decide) rfl b2.heap.size vp pp.length _ rfl HOwn.out m2.heap.size [Value.int .i64 y1, Value.int .i64 y2] rfl rfl HRg.out (ints_one [y1, y2]) hplen hbase' ?_; intro v2 w2 h1 h2 h3; obtain ⟨va2, vc2, rfl⟩ := own_form h1; have HA1 := hide h1; have HA2 := hide h2; have HA3 := hide h3; have cq2 := (World.cell?_of_block (a := ⟨qh, 1, none⟩) (HBq.out w2 h2)).trans (HL.out.rs.cell (i := 1) (v := vp) rfl); have fq2 := (World.frozen?_of_block (a := ⟨qh, 1, none⟩) (HBq.out w2 h2)).trans (HL.out.rs.fz (i := 1) (by simp)); clear h1 h2 h3) | fail)
                    have HPush := hide (HL.out.push (d := [y1, y2]) ints_stays HE2.out.tn HE2.out.rd rfl rfl (fun x hx => (lead_ints (l := [y1, y2]) hx).elim) _ HA1.out HA2.out HA3.out)
                    go_roundw
                    case rel => exact ⟨jj + 1, .slice va2 (pp.length + 1) vc2, pp ++ [(intC [y1, y2], [y1, y2])], hltt, by go_num, show _ = _ by rw [List.length_append, HLen.out]; rfl, by rw [HSuI.out, HF.out]; exact HPush.out, show _ = _ by rw [HSuI.out, HF.out, List.map_append, HMap.out]; rfl⟩
                    case measure => simp [intOf]; omega
                  · have hne : ¬ ((S.e : Nat) : Int) = 0 := by omega
                    have hs5 := HDoneI.out hee
                    go_wp2_with fail
                    go_meet
                    case rel => exact ⟨vp, pp, HL.out.as hs5 (fun k => absurd k hee), fun k => absurd (hs5.symm.trans k) hee⟩
                · obtain rfl : jj = m := by omega
                  rw [I3.out] at HL HMap
                  go_wp2_with fail
                  go_meet
                  case rel => exact ⟨vp, pp, HL, fun _ => HMap.out⟩
            case rest =>
              rename World => b3
              obtain ⟨vp, pp, HLp, HMp⟩ := hcut
              obtain ⟨vpa, vpc, rfl⟩ := own_form HLp.out.row.own
              have HQh : Hid (qh < b2.heap.size ∧ r < b2.heap.size) := ⟨HLp.out.qs, Nat.lt_of_lt_of_le HLp.out.rs.rl (Nat.le_trans HLp.out.rs.q0 (Nat.le_of_lt HLp.out.qs))⟩
              go_wp2_with fail
              refine (ri64 HLp.out.rs.rd).mono ?_
              rintro e k3 ⟨rfl, hR, hT⟩
              rw [I4.out] at hR ⊢
              dsimp only at hR ⊢
              have hK := HLp.out.rs.call hT hR
              have c1 := hK.cell (i := 2) rfl
              have f1 := hK.fz (i := 2) (by simp)
              have HC2 : Hid (Rs wr (k3.setCell ⟨qh, 2, none⟩ (.int .i64 ov)) r a cap B g4 qh [.int .i64 idv, .slice vpa pp.length vpc, .int .i64 ov, .int .i64 0]) := hK.put 2 (.int .i64 ov) (by simp)
              have HFp2 : Hid (Fr qh r b3 (k3.setCell ⟨qh, 2, none⟩ (.int .i64 ov))) := ((Fr.refl qh r b3).turn hT).set 2 _
              clear hR hT hK
              go_wp2_with fail
              generalize k3.setCell ⟨qh, 2, none⟩ (.int .i64 ov) = b4 at *
              clear c1 f1
              refine (ri64 HC2.out.rd).mono ?_
              rintro e k4 ⟨rfl, hR, hT⟩
              rw [I5.out] at hR ⊢
              dsimp only at hR ⊢
              have hK := HC2.out.call hT hR
              have c1 := hK.cell (i := 3) rfl
              have f1 := hK.fz (i := 3) (by simp)
              have HC3 : Hid (Rs wr (k4.setCell ⟨qh, 3, none⟩ (.int .i64 un)) r a cap B g5 qh [Value.int .i64 idv, Value.slice vpa pp.length vpc, Value.int .i64 ov, Value.int .i64 un]) := hK.put 3 (.int .i64 un) (by simp)
              have HFp3 : Hid (Fr qh r b3 (k4.setCell ⟨qh, 3, none⟩ (.int .i64 un))) := (HFp2.out.turn hT).set 3 _
              clear hR hT hK
              go_upto_region 37 with fail
              generalize k4.setCell ⟨qh, 3, none⟩ (.int .i64 un) = b5 at *
              clear c1 f1 HC2 HFp2
              have HRowP := hide (HLp.out.row.fr ints_stays HFp3.out HQh.out.1 HQh.out.2)
              have HLd : Hid (∀ x, lead [Value.int .i64 idv, Value.slice vpa pp.length vpc, Value.int .i64 ov, Value.int .i64 un] x → wr.heap.size ≤ x ∧ x < b5.heap.size) := fun x hx => by
                obtain ⟨v, hv, e⟩ := hx
                simp only [List.mem_cons, List.not_mem_nil, or_false] at hv
                rcases hv with rfl | rfl | rfl | rfl
                · cases e
                · have h1 := HRowP.out.own.lt x e
                  have h2 := HB2.out.tn.size
                  exact ⟨by omega, h1.2⟩
                · cases e
                · cases e
              have HGood : Hid (HoldG b5 [Value.int .i64 idv, Value.slice vpa pp.length vpc, Value.int .i64 ov, Value.int .i64 un] ⟨idv, pp.map Prod.snd, [ov, un]⟩) := ⟨_, pp, rfl, rfl, rfl, HRowP.out.base (Nat.zero_le _)⟩
              have HFl : Hid (b5.rangeAt qh 0 [Value.int .i64 idv, Value.slice vpa pp.length vpc, Value.int .i64 ov, Value.int .i64 un]) := HC3.out.fl
              have hqr : q ≠ r := by have := HLH.out.rs.q0; have := HLH.out.rs.rl; omega
              have hbq : b5.heap[q]? = wr.heap[q]? := HC3.out.tn.block q HLH.out.rs.ql (by simp [hqr])
              have cq := (World.cell?_of_block (a := ⟨q, 18, none⟩) hbq).trans (HLH.out.rs.cell (i := 18) (v := vh) rfl)
              have HOwn := hide (own_alloc (own_same HLH.out.row.own (w' := b5) (fun x e => HC3.out.tn.block x (HLH.out.row.own.lt x e).2 (by have := (HLH.out.row.own.lt x e).1; have := HLH.out.qs; have := HLH.out.rs.rl; have := HLH.out.rs.q0; simp; omega))) (.cells #[Value.int .i64 idv, Value.slice vpa pp.length vpc, Value.int .i64 ov, Value.int .i64 un] 65))
              have HRg := hide (rng_alloc b5 [Value.int .i64 idv, Value.slice vpa pp.length vpc, Value.int .i64 ov, Value.int .i64 un] 65)
              have hsa : (b5.alloc (.cells #[Value.int .i64 idv, Value.slice vpa pp.length vpc, Value.int .i64 ov, Value.int .i64 un] 65)).heap.size = b5.heap.size + 1 := by simp
              have HSa := hide hsa
              have HBq : Hid (∀ w' : World, (b5.alloc (.cells #[Value.int .i64 idv, Value.slice vpa pp.length vpc, Value.int .i64 ov, Value.int .i64 un] 65)).grownBy w' vh.ownBlock → w'.heap[q]? = wr.heap[q]?) := fun w' hg => by
                have hl : q < b5.heap.size := Nat.lt_of_lt_of_le HLH.out.rs.ql HC3.out.tn.size
                exact (hg.block q (by rw [HSa.out]; omega) (fun e => by have := (HLH.out.row.own.lt q e.symm).1; have := HLH.out.qs; omega)).trans ((Below.heap_alloc b5 _ q hl).trans hbq)
              have hplen : ph.length ≤ 1000 := by rw [HLenH.out]; omega
              have hbase' : p9.heap.size ≤ (b5.alloc (.cells #[Value.int .i64 idv, Value.slice vpa pp.length vpc, Value.int .i64 ov, Value.int .i64 un] 65)).heap.size := by rw [HSa.out]; have := HLH.out.sz'; have := HC3.out.tn.size; omega
              have HOne : Hid (∀ u ∈ [Value.int .i64 idv, Value.slice vpa pp.length vpc, Value.int .i64 ov, Value.int .i64 un], u.oneCell' = true) := fun u hu => by
                simp only [List.mem_cons, List.not_mem_nil, or_false] at hu
                rcases hu with rfl | rfl | rfl | rfl <;> rfl
              clear hsa hbq
              go_wp2_with (first | ((with_reducible refine load_sz 65 4 sz65 _ qh 0 [Value.int .i64 idv, Value.slice vpa pp.length vpc, Value.int .i64 ov, Value.int .i64 un] rfl ?_ HFl.out ?_); rfl) | (at_builtin; refine append1 rfl _ _ 25 65 4 48 _ Try.underlying25 info_hold rfl (by decide) (by decide) rfl p9.heap.size vh ph.length _ rfl HOwn.out b5.heap.size [Value.int .i64 idv, Value.slice vpa pp.length vpc, Value.int .i64 ov, Value.int .i64 un] rfl rfl HRg.out HOne.out hplen hbase' ?_; intro v2 w2 h1 h2 h3; obtain ⟨va2, vc2, rfl⟩ := own_form h1; have HA1 := hide h1; have HA2 := hide h2; have HA3 := hide h3; have cq2 := (World.cell?_of_block (a := ⟨q, 18, none⟩) (HBq.out w2 h2)).trans (HLH.out.rs.cell (i := 18) (v := vh) rfl); have fq2 := (World.frozen?_of_block (a := ⟨q, 18, none⟩) (HBq.out w2 h2)).trans (HLH.out.rs.fz (i := 18) (by simp [accL, intC])); clear h1 h2 h3) | fail)
              have HPush := hide (HLH.out.push (d := ⟨idv, pp.map Prod.snd, [ov, un]⟩) hold_stays HC3.out.tn HC3.out.rd rfl HGood.out HLd.out _ HA1.out HA2.out HA3.out)
              go_roundw
              case rel => exact ⟨j + 1, .slice va2 (ph.length + 1) vc2, ph ++ [([Value.int .i64 idv, Value.slice vpa pp.length vpc, Value.int .i64 ov, Value.int .i64 un], ⟨idv, pp.map Prod.snd, [ov, un]⟩)], hlt, by go_num, show _ = _ by rw [List.length_append, HLenH.out]; rfl, by rw [HSu.out, HFH.out]; exact HPush.out, fun k => by
                rw [HSu.out, HFH.out] at k ⊢
                rw [List.map_append, HMapH.out he]
                show LMH ++ [⟨idv, pp.map Prod.snd, [ov, un]⟩] = _
                rw [HMp.out (HE5.out k)]⟩
              case measure => simp [intOf]; omega
          · have hne : ¬ ((SH.e : Nat) : Int) = 0 := by omega
            have hs7 := HDone.out he
            go_wp2_with fail
            go_meet
            case rel => exact ⟨vh, ph, HLH.out.as hs7 (fun k => absurd k he), fun k => absurd (hs7.symm.trans k) he⟩
        · obtain rfl : j = n7 := by omega
          rw [He7.out] at HLH HMapH
          go_wp2_with fail
          go_meet
          case rel => exact ⟨vh, ph, HLH, HMapH.out⟩
    case rest =>
      rename World => w8
      obtain ⟨vh, ph, HL7, HM7⟩ := hcut
      have HQ7 : Hid (q < p9.heap.size ∧ r < p9.heap.size) := ⟨HL7.out.qs, Nat.lt_of_lt_of_le HL7.out.rs.rl (Nat.le_trans HL7.out.rs.q0 (Nat.le_of_lt HL7.out.qs))⟩
      have HRow5b := hide (HRow5.out.fr ints_stays HL7.out.frm HQ5.out.1 HQ5.out.2)
      go_wp2_with fail
      have hn8 := HL7.out.rs.rd.by
      rw [He8c.out] at hn8
      refine (ru8 HL7.out.rs.rd).mono ?_
      rintro e p10 ⟨rfl, hR, hT⟩
      rw [He8c.out] at hR ⊢
      dsimp only at hR hn8 ⊢
      have HS12 := hide (HL7.out.rs.call hT hR)
      have HRow5c := hide (HRow5b.out.fr ints_stays ((Fr.refl q r w8).turn hT) HQ5.out.1 HQ5.out.2)
      have HRow7 := hide (HL7.out.row.fr hold_stays ((Fr.refl q r w8).turn hT) HQ7.out.1 HQ7.out.2)
      clear hR hT HRow5 HRow5b HL7
      go_upto_block 6 with fail
      go_cut [12, 13] from 14 to 167 (fun _ _ wx => ∃ (vw : Value) (pw : List (List Value × EntD)), Hid (Lst w0 p10 wx r a cap B s8 q (accL nm key pn [x1, x2, x3, x4, x5, x6, x7, x8, x9] [t1, t2, t3] (vl) [n1, n2] (vh) (vw)) 19 69 14 EntG vw pw) ∧ Hid (s8.e = 0 → pw.map Prod.snd = l8))
      case first =>
        go_wp2_with fail
        go_loopw [12, 13] (fun i _ wr => ∃ (j : Nat) (vw : Value) (pw : List (List Value × EntD)), j ≤ n8 ∧ i = .int .i64 (j : Nat) ∧ Hid (pw.length = j) ∧ Hid (Lst w0 p10 wr r a cap B (manyS FE j s8c).1 q (accL nm key pn [x1, x2, x3, x4, x5, x6, x7, x8, x9] [t1, t2, t3] (vl) [n1, n2] (vh) (vw)) 19 69 14 EntG vw pw) ∧ Hid ((manyS FE j s8c).1.e = 0 → pw.map Prod.snd = (manyS FE j s8c).2)) (fun i _ _ => n8 - (intOf i).toNat)
        case atStart => exact ⟨0, _, [], Nat.zero_le _, rfl, rfl, Lst.new HS12.out rfl, fun _ => rfl⟩
        case round =>
          obtain ⟨j, vw, pw, hj, rfl, HLenH, HLH, HMapH⟩ := hrel
          have hc2 := HLH.out.rs.rd.c2
          by_cases hlt : j < n8
          · have hsu := manyS_succ FE j s8c
            have HSu := hide hsu
            clear hsu
            have HDone : Hid ((manyS FE j s8c).1.e ≠ 0 → s8.e = (manyS FE j s8c).1.e) := fun k => by
              have := manyS_stick FE_stick k n8 (Nat.le_of_lt hlt)
              rw [He8.out] at this
              exact this
            generalize manyS FE j s8c = M at *
            obtain ⟨SE, LME⟩ := M
            dsimp only at HLH HMapH HSu HDone hc2
            by_cases he : SE.e = 0
            · rw [he] at hc2
              obtain ⟨⟨g1, idv⟩, i1⟩ : ∃ T, numS .pr SE 0 = T := ⟨_, rfl⟩
              obtain ⟨⟨g2, E⟩, i2⟩ : ∃ T, anS g1 = T := ⟨_, rfl⟩
              have hFE : FE SE = (g2, { E with id := idv }) := by
                rw [ent_an, i1]
                dsimp only
                rw [i2]
              have hEl := anS_len g1
              rw [i2] at hEl
              obtain ⟨a1, a2, a3, hl3⟩ := list3 E.l hEl.1
              obtain ⟨z1, z2, z3, z4, z5, z6, z7, z8, hz8⟩ := list8' E.xs hEl.2
              have HFE := hide hFE
              have I1 := hide i1
              have I2 := hide i2
              have HL3 := hide hl3
              have HZ8 := hide hz8
              clear i1 i2 hFE hEl hl3 hz8
              generalize her : E.er = er at *
              have HEr := hide her
              clear her
              have hrlH : r < wr.heap.size := HLH.out.rs.rd.at
              have HAbH := hide (fun x hx e => HLH.out.rs.rd.hB.lt x hx e)
              go_wp2_with fail
              refine (ri64 HLH.out.rs.rd).mono ?_
              rintro e k1 ⟨rfl, hR, hT⟩
              rw [I1.out] at hR ⊢
              dsimp only at hR ⊢
              have HB1 := hide (Rs.new hR hT hrlH HAbH.out #[Value.int .i64 idv, .int .i64 0, .int .i64 0, .int .i64 0, .int .i64 0, .string { data := #[] }, .int .i64 0, .int .i64 0, .int .i64 0, .int .i64 0, .int .i64 0, .int .i64 0, .int .i64 0, .int .i64 0] 69)
              clear hR hT
              go_wp2_with fail
              generalize hqh : k1.heap.size = qh at *
              generalize k1.alloc (.cells #[Value.int .i64 idv, .int .i64 0, .int .i64 0, .int .i64 0, .int .i64 0, .string { data := #[] }, .int .i64 0, .int .i64 0, .int .i64 0, .int .i64 0, .int .i64 0, .int .i64 0, .int .i64 0, .int .i64 0] 69) = b1 at *
              clear hqh
              refine (rdAns HB1.out.rd).mono ?_
              rintro e b2 ⟨en, rfl, hR, hen, hT⟩
              rw [I2.out] at hR hen ⊢
              dsimp only at hR hen ⊢
              rw [HEr.out, HL3.out, HZ8.out]
              have HEn := hide hen
              have hK := HB1.out.call hT hR
              have HT13 : Hid (b2.there qh 1 13) := fun j hj => by
                have := hK.th (1 + j) (by simp; omega)
                rw [Nat.zero_add] at this
                exact this
              have HO13 : Hid (∀ v ∈ [Value.int .i64 er, Value.int .i64 a1, Value.int .i64 a2, Value.int .i64 a3, Value.string en, Value.int .i64 z1, Value.int .i64 z2, Value.int .i64 z3, Value.int .i64 z4, Value.int .i64 z5, Value.int .i64 z6, Value.int .i64 z7, Value.int .i64 z8], v.oneCell' = true) := fun v hv => by
                simp only [List.mem_cons, List.not_mem_nil, or_false] at hv
                rcases hv with rfl | rfl | rfl | rfl | rfl | rfl | rfl | rfl | rfl | rfl | rfl | rfl | rfl <;> rfl
              have HC3 : Hid (Rs wr (b2.setCells qh 1 [Value.int .i64 er, Value.int .i64 a1, Value.int .i64 a2, Value.int .i64 a3, Value.string en, Value.int .i64 z1, Value.int .i64 z2, Value.int .i64 z3, Value.int .i64 z4, Value.int .i64 z5, Value.int .i64 z6, Value.int .i64 z7, Value.int .i64 z8]) r a cap B g2 qh [Value.int .i64 idv, Value.int .i64 er, Value.int .i64 a1, Value.int .i64 a2, Value.int .i64 a3, Value.string en, Value.int .i64 z1, Value.int .i64 z2, Value.int .i64 z3, Value.int .i64 z4, Value.int .i64 z5, Value.int .i64 z6, Value.int .i64 z7, Value.int .i64 z8]) := hK.puts 1 [Value.int .i64 er, Value.int .i64 a1, Value.int .i64 a2, Value.int .i64 a3, Value.string en, Value.int .i64 z1, Value.int .i64 z2, Value.int .i64 z3, Value.int .i64 z4, Value.int .i64 z5, Value.int .i64 z6, Value.int .i64 z7, Value.int .i64 z8] (by simp)
              clear hR hT hK hen HB1
              have hl13 : [Value.int .i64 er, Value.int .i64 a1, Value.int .i64 a2, Value.int .i64 a3, Value.string en, Value.int .i64 z1, Value.int .i64 z2, Value.int .i64 z3, Value.int .i64 z4, Value.int .i64 z5, Value.int .i64 z6, Value.int .i64 z7, Value.int .i64 z8].length = 13 := rfl
              generalize hc13 : [Value.int .i64 er, Value.int .i64 a1, Value.int .i64 a2, Value.int .i64 a3, Value.string en, Value.int .i64 z1, Value.int .i64 z2, Value.int .i64 z3, Value.int .i64 z4, Value.int .i64 z5, Value.int .i64 z6, Value.int .i64 z7, Value.int .i64 z8] = d13 at HT13 HO13 HC3 hl13
              have hv13 : Value.agg (Value.int .i64 er :: (intC [a1, a2, a3] ++ Value.string en :: intC [z1, z2, z3, z4, z5, z6, z7, z8])).toArray = .agg d13.toArray := by rw [← hc13]; rfl
              rw [hv13]
              have HC13 := hide hc13
              clear hv13 hc13
              go_upto_region 44 with (first | ((with_reducible refine store_sz 67 13 sz67 _ _ qh 1 d13 hl13 HO13.out ?_ ?_ HT13.out ?_); rfl; rfl) | fail)
              generalize b2.setCells qh 1 d13 = b5 at *
              rw [← HC13.out] at HC3
              have HLd : Hid (∀ x, lead [Value.int .i64 idv, Value.int .i64 er, Value.int .i64 a1, Value.int .i64 a2, Value.int .i64 a3, Value.string en, Value.int .i64 z1, Value.int .i64 z2, Value.int .i64 z3, Value.int .i64 z4, Value.int .i64 z5, Value.int .i64 z6, Value.int .i64 z7, Value.int .i64 z8] x → wr.heap.size ≤ x ∧ x < b5.heap.size) := fun x hx => (lead_ent (d := ⟨idv, er, [a1, a2, a3], en, [z1, z2, z3, z4, z5, z6, z7, z8]⟩) hx).elim
              have HGood : Hid (EntG b5 [Value.int .i64 idv, Value.int .i64 er, Value.int .i64 a1, Value.int .i64 a2, Value.int .i64 a3, Value.string en, Value.int .i64 z1, Value.int .i64 z2, Value.int .i64 z3, Value.int .i64 z4, Value.int .i64 z5, Value.int .i64 z6, Value.int .i64 z7, Value.int .i64 z8] ⟨idv, er, [a1, a2, a3], en, [z1, z2, z3, z4, z5, z6, z7, z8]⟩) := ⟨rfl, rfl, rfl⟩
              have HFl : Hid (b5.rangeAt qh 0 [Value.int .i64 idv, Value.int .i64 er, Value.int .i64 a1, Value.int .i64 a2, Value.int .i64 a3, Value.string en, Value.int .i64 z1, Value.int .i64 z2, Value.int .i64 z3, Value.int .i64 z4, Value.int .i64 z5, Value.int .i64 z6, Value.int .i64 z7, Value.int .i64 z8]) := HC3.out.fl
              have hqr : q ≠ r := by have := HLH.out.rs.q0; have := HLH.out.rs.rl; omega
              have hbq : b5.heap[q]? = wr.heap[q]? := HC3.out.tn.block q HLH.out.rs.ql (by simp [hqr])
              have cq := (World.cell?_of_block (a := ⟨q, 19, none⟩) hbq).trans (HLH.out.rs.cell (i := 19) (v := vw) rfl)
              have HOwn := hide (own_alloc (own_same HLH.out.row.own (w' := b5) (fun x e => HC3.out.tn.block x (HLH.out.row.own.lt x e).2 (by have := (HLH.out.row.own.lt x e).1; have := HLH.out.qs; have := HLH.out.rs.rl; have := HLH.out.rs.q0; simp; omega))) (.cells #[Value.int .i64 idv, Value.int .i64 er, Value.int .i64 a1, Value.int .i64 a2, Value.int .i64 a3, Value.string en, Value.int .i64 z1, Value.int .i64 z2, Value.int .i64 z3, Value.int .i64 z4, Value.int .i64 z5, Value.int .i64 z6, Value.int .i64 z7, Value.int .i64 z8] 69))
              have HRg := hide (rng_alloc b5 [Value.int .i64 idv, Value.int .i64 er, Value.int .i64 a1, Value.int .i64 a2, Value.int .i64 a3, Value.string en, Value.int .i64 z1, Value.int .i64 z2, Value.int .i64 z3, Value.int .i64 z4, Value.int .i64 z5, Value.int .i64 z6, Value.int .i64 z7, Value.int .i64 z8] 69)
              have hsa : (b5.alloc (.cells #[Value.int .i64 idv, Value.int .i64 er, Value.int .i64 a1, Value.int .i64 a2, Value.int .i64 a3, Value.string en, Value.int .i64 z1, Value.int .i64 z2, Value.int .i64 z3, Value.int .i64 z4, Value.int .i64 z5, Value.int .i64 z6, Value.int .i64 z7, Value.int .i64 z8] 69)).heap.size = b5.heap.size + 1 := by simp
              have HSa := hide hsa
              have HBq : Hid (∀ w' : World, (b5.alloc (.cells #[Value.int .i64 idv, Value.int .i64 er, Value.int .i64 a1, Value.int .i64 a2, Value.int .i64 a3, Value.string en, Value.int .i64 z1, Value.int .i64 z2, Value.int .i64 z3, Value.int .i64 z4, Value.int .i64 z5, Value.int .i64 z6, Value.int .i64 z7, Value.int .i64 z8] 69)).grownBy w' vw.ownBlock → w'.heap[q]? = wr.heap[q]?) := fun w' hg => by
                have hl : q < b5.heap.size := Nat.lt_of_lt_of_le HLH.out.rs.ql HC3.out.tn.size
                exact (hg.block q (by rw [HSa.out]; omega) (fun e => by have := (HLH.out.row.own.lt q e.symm).1; have := HLH.out.qs; omega)).trans ((Below.heap_alloc b5 _ q hl).trans hbq)
              have hplen : pw.length ≤ 1000 := by rw [HLenH.out]; omega
              have hbase' : p10.heap.size ≤ (b5.alloc (.cells #[Value.int .i64 idv, Value.int .i64 er, Value.int .i64 a1, Value.int .i64 a2, Value.int .i64 a3, Value.string en, Value.int .i64 z1, Value.int .i64 z2, Value.int .i64 z3, Value.int .i64 z4, Value.int .i64 z5, Value.int .i64 z6, Value.int .i64 z7, Value.int .i64 z8] 69)).heap.size := by rw [HSa.out]; have := HLH.out.sz'; have := HC3.out.tn.size; omega
              have HOne : Hid (∀ u ∈ [Value.int .i64 idv, Value.int .i64 er, Value.int .i64 a1, Value.int .i64 a2, Value.int .i64 a3, Value.string en, Value.int .i64 z1, Value.int .i64 z2, Value.int .i64 z3, Value.int .i64 z4, Value.int .i64 z5, Value.int .i64 z6, Value.int .i64 z7, Value.int .i64 z8], u.oneCell' = true) := fun u hu => by
                simp only [List.mem_cons, List.not_mem_nil, or_false] at hu
                rcases hu with rfl | rfl | rfl | rfl | rfl | rfl | rfl | rfl | rfl | rfl | rfl | rfl | rfl | rfl <;> rfl
              clear hsa hbq
              go_wp2_with (first | ((with_reducible refine load_sz 69 14 sz69 _ qh 0 [Value.int .i64 idv, Value.int .i64 er, Value.int .i64 a1, Value.int .i64 a2, Value.int .i64 a3, Value.string en, Value.int .i64 z1, Value.int .i64 z2, Value.int .i64 z3, Value.int .i64 z4, Value.int .i64 z5, Value.int .i64 z6, Value.int .i64 z7, Value.int .i64 z8] rfl ?_ HFl.out ?_); rfl) | (at_builtin; refine append1 rfl _ _ 26 69 14 120 _ Try.underlying26 info_entry rfl (by decide) (by decide) rfl p10.heap.size vw pw.length _ rfl HOwn.out b5.heap.size [Value.int .i64 idv, Value.int .i64 er, Value.int .i64 a1, Value.int .i64 a2, Value.int .i64 a3, Value.string en, Value.int .i64 z1, Value.int .i64 z2, Value.int .i64 z3, Value.int .i64 z4, Value.int .i64 z5, Value.int .i64 z6, Value.int .i64 z7, Value.int .i64 z8] rfl rfl HRg.out HOne.out hplen hbase' ?_; intro v2 w2 h1 h2 h3; obtain ⟨va2, vc2, rfl⟩ := own_form h1; have HA1 := hide h1; have HA2 := hide h2; have HA3 := hide h3; have cq2 := (World.cell?_of_block (a := ⟨q, 19, none⟩) (HBq.out w2 h2)).trans (HLH.out.rs.cell (i := 19) (v := vw) rfl); have fq2 := (World.frozen?_of_block (a := ⟨q, 19, none⟩) (HBq.out w2 h2)).trans (HLH.out.rs.fz (i := 19) (by simp [accL, intC])); clear h1 h2 h3) | fail)
              have HPush := hide (HLH.out.push (d := ⟨idv, er, [a1, a2, a3], en, [z1, z2, z3, z4, z5, z6, z7, z8]⟩) ent_stays HC3.out.tn HC3.out.rd rfl HGood.out HLd.out _ HA1.out HA2.out HA3.out)
              go_roundw
              case rel => exact ⟨j + 1, .slice va2 (pw.length + 1) vc2, pw ++ [([Value.int .i64 idv, Value.int .i64 er, Value.int .i64 a1, Value.int .i64 a2, Value.int .i64 a3, Value.string en, Value.int .i64 z1, Value.int .i64 z2, Value.int .i64 z3, Value.int .i64 z4, Value.int .i64 z5, Value.int .i64 z6, Value.int .i64 z7, Value.int .i64 z8], ⟨idv, er, [a1, a2, a3], en, [z1, z2, z3, z4, z5, z6, z7, z8]⟩)], hlt, by go_num, show _ = _ by rw [List.length_append, HLenH.out]; rfl, by rw [HSu.out, HFE.out]; exact HPush.out, fun k => by
                rw [HSu.out, HFE.out] at k ⊢
                rw [List.map_append, HMapH.out he]
                show LME ++ [⟨idv, er, [a1, a2, a3], en, [z1, z2, z3, z4, z5, z6, z7, z8]⟩] = LME ++ [⟨idv, er, E.l, E.nm, E.xs⟩]
                rw [HL3.out, HZ8.out, HEn.out k]⟩
              case measure => simp [intOf]; omega
            · have hne : ¬ ((SE.e : Nat) : Int) = 0 := by omega
              have hs8 := HDone.out he
              go_wp2_with fail
              go_meet
              case rel => exact ⟨vw, pw, HLH.out.as hs8 (fun k => absurd k he), fun k => absurd (hs8.symm.trans k) he⟩
          · obtain rfl : j = n8 := by omega
            rw [He8.out] at HLH HMapH
            go_wp2_with fail
            go_meet
            case rel => exact ⟨vw, pw, HLH, HMapH.out⟩
      case rest =>
        rename World => w9
        obtain ⟨vw, pw, HL8, HM8⟩ := hcut
        have HRow5d := hide (HRow5c.out.fr ints_stays HL8.out.frm HQ5.out.1 HQ5.out.2)
        have HRow7d := hide (HRow7.out.fr hold_stays HL8.out.frm HQ7.out.1 HQ7.out.2)
        have hl20 : (accL nm key pn [x1, x2, x3, x4, x5, x6, x7, x8, x9] [t1, t2, t3] (vl) [n1, n2] (vh) (vw)).length = 20 := rfl
        have HF20 : Hid (w9.rangeAt q 0 (accL nm key pn [x1, x2, x3, x4, x5, x6, x7, x8, x9] [t1, t2, t3] (vl) [n1, n2] (vh) (vw))) := HL8.out.rs.fl
        have HO20 : Hid (∀ v ∈ (accL nm key pn [x1, x2, x3, x4, x5, x6, x7, x8, x9] [t1, t2, t3] (vl) [n1, n2] (vh) (vw)), v.oneCell' = true) := accL_one (slice_one HRow5d.out.own) (slice_one HRow7d.out.own) (slice_one HL8.out.row.own)
        have HTq : Hid (w9.there q2 0 20) := fun j hj => by
          have hb := HL8.out.rs.tn.block q2 (by rw [HS0.out]; omega) (by simp [hrw])
          rw [World.cell?_of_block (a := ⟨q2, 0 + j, none⟩) hb, World.frozen?_of_block (a := ⟨q2, 0 + j, none⟩) hb]
          exact HTh.out j hj
        have HBs : Hid (q2 < p6.heap.size ∧ q2 < p9.heap.size ∧ q2 < p10.heap.size) := by
          have h0 := HS0.out
          have h1 := HL8.out.rs.q0
          have h2 := HL8.out.qs
          have h3 := HQ7.out.1
          have h4 := HQ5.out.1
          exact ⟨by omega, by omega, by omega⟩
        have HFinal : Hid (∀ cs : List Value, cs = (accL nm key pn [x1, x2, x3, x4, x5, x6, x7, x8, x9] [t1, t2, t3] (vl) [n1, n2] (vh) (vw)) → ∀ e, e = Ending.returned (.agg cs.toArray) → ∃ cs' d', e = .returned (.agg cs'.toArray) ∧ Rdr (w9.setCells q2 0 cs) r a cap B s8 ∧ AccV q2 (w9.setCells q2 0 cs) cs' d' ∧ (s8.e = 0 → d' = ⟨nm1, key2, pn3, [x1, x2, x3, x4, x5, x6, x7, x8, x9], [t1, t2, t3], l5, [n1, n2], l7, l8⟩) ∧ Turn [r] w (w9.setCells q2 0 cs)) := fun cs hcs e he => by
          have hk : ∀ b, q2 < b → ∀ x, b ≤ x → x < w9.heap.size → (w9.setCells q2 0 cs).heap[x]? = w9.heap[x]? := fun b hb x h1 _ => heap_setCellsN q2 x (by omega) _ _ _
          have hsz : w9.heap.size ≤ (w9.setCells q2 0 cs).heap.size := Nat.le_of_eq (size_setCellsN q2 cs 0 w9).symm
          refine ⟨cs, ⟨nm, key, pn, [x1, x2, x3, x4, x5, x6, x7, x8, x9], [t1, t2, t3], pl.map Prod.snd, [n1, n2], ph.map Prod.snd, pw.map Prod.snd⟩, he, ?_, ⟨vl, vh, vw, pl, ph, pw, hcs, rfl, rfl, rfl, rfl, ?_, rfl, ?_, rfl, ?_⟩, fun k => ?_, ?_⟩
          · exact rdr_far HL8.out.rs.rd (heap_setCellsN q2 r (fun e => hrw e.symm) _ _ _) (fun x hx e => heap_setCellsN q2 x.block (fun k => by have := HAb2.out x hx e; have := HQ2.out; omega) _ _ _)
          · exact (HRow5d.out.keep ints_stays hsz (hk _ HBs.out.1)).base (Nat.le_of_lt HBs.out.1)
          · exact (HRow7d.out.keep hold_stays hsz (hk _ HBs.out.2.1)).base (Nat.le_of_lt HBs.out.2.1)
          · exact (HL8.out.row.keep ent_stays hsz (hk _ HBs.out.2.2)).base (Nat.le_of_lt HBs.out.2.2)
          · obtain ⟨k7, k5, k3, k2, k1⟩ := HB.out k
            rw [HNm.out k1, HKey.out k2, HPn.out (HTi.out k3), HM5.out k5, HM7.out k7, HM8.out k]
          · have g1 := HFin.out _ HL8.out.rs.tn
            have e := rest_setCellsN q2 cs 0 w9
            exact ⟨e.1.trans g1.os, e.2.1.trans g1.tape, e.2.2.trans g1.output, by rw [size_setCellsN]; exact g1.size, fun k hk hS => (heap_setCellsN q2 k (by have := HQ2.out; omega) _ _ _).trans (g1.block k hk hS)⟩
        generalize hcs : (accL nm key pn [x1, x2, x3, x4, x5, x6, x7, x8, x9] [t1, t2, t3] (vl) [n1, n2] (vh) (vw)) = c20 at hl20 HF20 HO20
        have HR6 := hide (World.rangeAt_setCells_same w9 q2 0 c20 (by rw [hl20]; exact HTq.out))
        have HFq := hide (HFinal.out c20 hcs.symm)
        clear hcs HFinal
        go_wp2_with (first | ((with_reducible refine load_sz 28 20 sz28 _ q 0 c20 hl20 ?_ HF20.out ?_); rfl) | ((with_reducible refine store_sz 28 20 sz28 _ _ q2 0 c20 hl20 HO20.out ?_ ?_ HTq.out ?_); rfl; rfl) | fail)
        exact bodyPost_ret (v := .agg c20.toArray) (results_sz sz28 Try.results47 hl20 rfl HR6.out) rfl (HFq.out _ rfl)
end Go.Proofs.Ytghgkjollafeiaa

/-
  The reference's parses.
-/
namespace Go.Proofs.Ytghgkjollafeiaa
open Go.RowKit

theorem results_sz2 {fn : Func} {i j T n : Nat} (hT : Sz T n) (h : fn.results = #[.cell i T, .tmp j]) {tmps : Array Value} {w : World} {k : Value} {g : Nat} {cs : List Value} (hl : cs.length = n) (h4 : tmps.getD i undef = .pointer (some ⟨g, 0, none⟩)) (h5 : tmps.getD j undef = k) (hr : w.rangeAt g 0 cs) :
    (results fn tmps).run Try.prog w = .ok (.tuple #[.agg cs.toArray, k]) w := by
  have h4' : tmps[i]?.getD undef = .pointer (some ⟨g, 0, none⟩) := by simpa using h4
  have h5' : tmps[j]?.getD undef = k := by simpa using h5
  obtain ⟨h0, d, k1, k2⟩ := hT
  have hv : (loadVar T ⟨g, 0, none⟩).run Try.prog w = .ok (.agg cs.toArray) w := run_loadVar_mid w g 0 _ cs d hr k1 k2 (by rw [h0, hl])
  simp [results, h, h4', h5', asAddr, hv]
/-- A reader at its beginning. -/
theorem rdr_new {w : World} {a : Option Addr} {cap : Nat} {B : List Nat} (hB : BytesAt w a B) (hc : B.length ≤ cap) (hl : B.length ≤ 1000000) (hx : ∀ x ∈ B, x < 256) : Rdr (w.alloc (.cells #[.slice a B.length cap, .int .i64 0, .int .i64 0] 103)) w.heap.size a cap B ⟨B, 0⟩ := by
  have hb : (w.alloc (.cells #[.slice a B.length cap, .int .i64 0, .int .i64 0] 103)).heap[w.heap.size]? = some (.cells #[.slice a B.length cap, .int .i64 0, .int .i64 0] 103 (0, 0)) := Array.getElem?_push_size
  refine ⟨?_, ⟨0, ?_, Nat.zero_le _, fun _ => rfl⟩, ?_, frozen_of_row _ _ _ _ _ hb, frozen_of_row _ _ _ _ _ hb, hB.keep (fun x hx e => Below.heap_alloc w _ _ (hB.lt x hx e)), fun x hx e => Nat.ne_of_lt (hB.lt x hx e), hl, hc, hx⟩
  · rw [cell_of_row _ _ _ _ _ _ hb]; rfl
  · rw [cell_of_row _ _ _ _ _ _ hb]; rfl
  · rw [cell_of_row _ _ _ _ _ _ hb]; rfl
/-- What is behind a parse: the world, told by what has not turned. -/
theorem Turn.ends {r : Nat} {w w1 w2 : World} (h1 : Turn [] w w1) (h2 : Turn [r] w1 w2) (hr : w.heap.size ≤ r) : Turn [] w w2 :=
  ⟨h2.os.trans h1.os, h2.tape.trans h1.tape, h2.output.trans h1.output, Nat.le_trans h1.size h2.size, fun k hk _ => (h2.block k (Nat.lt_of_lt_of_le hk h1.size) (by simp; omega)).trans (h1.block k hk (by simp))⟩

set_option maxRecDepth 100000 in
set_option maxHeartbeats 6400000 in
theorem rpAcc {w : World} (a : Option Addr) (cap : Nat) (B : List Nat) (hB : BytesAt w a B) (hc : B.length ≤ cap) (hl : B.length ≤ 1000000) (hx : ∀ x ∈ B, x < 256) :
    Calls Try.prog 23 #[.slice a B.length cap] w fun r w' => ∃ cs f, r = .returned (.tuple #[.agg cs.toArray, .int .i64 (f : Nat)]) ∧ ParsedA w w' B cs f := by
  obtain ⟨w0, hw0⟩ : ∃ W, W = w.alloc (.cells #[Value.string { data := #[] }, Value.string { data := #[] }, Value.string { data := #[] }, Value.int .i64 0, Value.int .i64 0, Value.int .i64 0, Value.int .i64 0, Value.int .i64 0, Value.int .i64 0, Value.int .i64 0, Value.int .i64 0, Value.int .i64 0, Value.int .i64 0, Value.int .i64 0, Value.int .i64 0, Value.slice none 0 0, Value.int .i64 0, Value.int .i64 0, Value.slice none 0 0, Value.slice none 0 0] 28) := ⟨_, rfl⟩
  obtain ⟨w1, hw1⟩ : ∃ W, W = w0.alloc (.cells #[.slice a B.length cap, .int .i64 0, .int .i64 0] 103) := ⟨_, rfl⟩
  have hT0 : Turn [] w w0 := by rw [hw0]; exact (Turn.refl [] w).alloc _
  have hT1 : Turn [] w w1 := by rw [hw1]; exact hT0.alloc _
  have s0 : w0.heap.size = w.heap.size + 1 := by rw [hw0]; simp
  have s1 : w1.heap.size = w.heap.size + 2 := by rw [hw1]; simp [s0]
  have hR : Rdr w1 (w.heap.size + 1) a cap B ⟨B, 0⟩ := by rw [hw1, ← s0]; exact rdr_new (hB.turn hT0 (by simp)) hc hl hx
  have hth : w1.there w.heap.size 0 20 := by
    rw [hw1]
    refine World.there_alloc ?_ _
    rw [hw0]
    exact there_new2 w #[Value.string { data := #[] }, Value.string { data := #[] }, Value.string { data := #[] }, Value.int .i64 0, Value.int .i64 0, Value.int .i64 0, Value.int .i64 0, Value.int .i64 0, Value.int .i64 0, Value.int .i64 0, Value.int .i64 0, Value.int .i64 0, Value.int .i64 0, Value.int .i64 0, Value.int .i64 0, Value.slice none 0 0, Value.int .i64 0, Value.int .i64 0, Value.slice none 0 0, Value.slice none 0 0] 28
  have HC := hide (rdAcc hR)
  unfold RaP at HC
  obtain ⟨⟨T, D⟩, hT⟩ : ∃ X, FA ⟨B, 0⟩ = X := ⟨_, rfl⟩
  unfold ParsedA
  rw [hT] at HC ⊢
  dsimp only at HC ⊢
  clear hT
  have HTh := hide hth
  have HT1 := hide hT1
  have HS1 := hide s1
  rw [hw0] at hw1
  have HW1 := hide hw1
  clear hT0 hT1 s0 s1 hR hth hw0 hw1 hB hc hl hx w0
  generalize hq2 : w.heap.size = q2 at *
  go_enter Try.func23, Try.ntmps23
  go_wp2_with fail
  rw [← HW1.out]
  have HQ2 := hide hq2
  clear hq2 HW1
  refine HC.out.mono ?_
  rintro e u ⟨cs, dd, rfl, hR, hV0, hD, hT⟩
  have hl : cs.length = 20 := hV0.len.1
  have HOne : Hid (∀ x ∈ cs, x.oneCell' = true) := hV0.len.2
  have HV : Hid (T.e = 0 → AccV w1.heap.size u cs D) := fun k => by rw [← hD k]; exact hV0
  clear hV0 hD
  have HZt : Hid ((u.alloc (.cells #[Value.string { data := #[] }, Value.string { data := #[] }, Value.string { data := #[] }, Value.int .i64 0, Value.int .i64 0, Value.int .i64 0, Value.int .i64 0, Value.int .i64 0, Value.int .i64 0, Value.int .i64 0, Value.int .i64 0, Value.int .i64 0, Value.int .i64 0, Value.int .i64 0, Value.int .i64 0, Value.slice none 0 0, Value.int .i64 0, Value.int .i64 0, Value.slice none 0 0, Value.slice none 0 0] 28)).there u.heap.size 0 20) := there_new2 u #[Value.string { data := #[] }, Value.string { data := #[] }, Value.string { data := #[] }, Value.int .i64 0, Value.int .i64 0, Value.int .i64 0, Value.int .i64 0, Value.int .i64 0, Value.int .i64 0, Value.int .i64 0, Value.int .i64 0, Value.int .i64 0, Value.int .i64 0, Value.int .i64 0, Value.int .i64 0, Value.slice none 0 0, Value.int .i64 0, Value.int .i64 0, Value.slice none 0 0, Value.slice none 0 0] 28
  have HTu := hide hT
  have HR3 : Hid (Rdr ((u.alloc (.cells #[Value.string { data := #[] }, Value.string { data := #[] }, Value.string { data := #[] }, Value.int .i64 0, Value.int .i64 0, Value.int .i64 0, Value.int .i64 0, Value.int .i64 0, Value.int .i64 0, Value.int .i64 0, Value.int .i64 0, Value.int .i64 0, Value.int .i64 0, Value.int .i64 0, Value.int .i64 0, Value.slice none 0 0, Value.int .i64 0, Value.int .i64 0, Value.slice none 0 0, Value.slice none 0 0] 28)).setCells u.heap.size 0 cs) (q2 + 1) a cap B T) := rdr_far (hR.keep (w' := u.alloc (.cells #[Value.string { data := #[] }, Value.string { data := #[] }, Value.string { data := #[] }, Value.int .i64 0, Value.int .i64 0, Value.int .i64 0, Value.int .i64 0, Value.int .i64 0, Value.int .i64 0, Value.int .i64 0, Value.int .i64 0, Value.int .i64 0, Value.int .i64 0, Value.int .i64 0, Value.int .i64 0, Value.slice none 0 0, Value.int .i64 0, Value.int .i64 0, Value.slice none 0 0, Value.slice none 0 0] 28)) (fun x hx => Below.heap_alloc u _ x hx)) (heap_setCellsN u.heap.size (q2 + 1) (Nat.ne_of_lt hR.at) _ _ _) (fun x hx e => heap_setCellsN u.heap.size x.block (Nat.ne_of_lt (hR.hB.lt x hx e)) _ _ _)
  have HBlk : Hid (∀ x, x < u.heap.size → ((u.alloc (.cells #[Value.string { data := #[] }, Value.string { data := #[] }, Value.string { data := #[] }, Value.int .i64 0, Value.int .i64 0, Value.int .i64 0, Value.int .i64 0, Value.int .i64 0, Value.int .i64 0, Value.int .i64 0, Value.int .i64 0, Value.int .i64 0, Value.int .i64 0, Value.int .i64 0, Value.int .i64 0, Value.slice none 0 0, Value.int .i64 0, Value.int .i64 0, Value.slice none 0 0, Value.slice none 0 0] 28)).setCells u.heap.size 0 cs).heap[x]? = u.heap[x]?) := fun x hx => (heap_setCellsN u.heap.size x (Nat.ne_of_lt hx) _ _ _).trans (Below.heap_alloc u _ x hx)
  have HTv : Hid (Turn [] u ((u.alloc (.cells #[Value.string { data := #[] }, Value.string { data := #[] }, Value.string { data := #[] }, Value.int .i64 0, Value.int .i64 0, Value.int .i64 0, Value.int .i64 0, Value.int .i64 0, Value.int .i64 0, Value.int .i64 0, Value.int .i64 0, Value.int .i64 0, Value.int .i64 0, Value.int .i64 0, Value.int .i64 0, Value.slice none 0 0, Value.int .i64 0, Value.int .i64 0, Value.slice none 0 0, Value.slice none 0 0] 28)).setCells u.heap.size 0 cs)) := Turn.setCellsN ((Turn.refl [] u).alloc _) _ (Nat.le_refl _) _ _
  have HFx : Hid (((u.alloc (.cells #[Value.string { data := #[] }, Value.string { data := #[] }, Value.string { data := #[] }, Value.int .i64 0, Value.int .i64 0, Value.int .i64 0, Value.int .i64 0, Value.int .i64 0, Value.int .i64 0, Value.int .i64 0, Value.int .i64 0, Value.int .i64 0, Value.int .i64 0, Value.int .i64 0, Value.int .i64 0, Value.slice none 0 0, Value.int .i64 0, Value.int .i64 0, Value.slice none 0 0, Value.slice none 0 0] 28)).setCells u.heap.size 0 cs).rangeAt u.heap.size 0 cs) := World.rangeAt_setCells_same _ _ _ _ (by rw [hl]; exact HZt.out)
  clear hR hT
  go_upto_region 3 with (first | ((with_reducible refine store_sz 28 20 sz28 _ _ u.heap.size 0 cs hl HOne.out ?_ ?_ HZt.out ?_); rfl; rfl) | fail)
  generalize hqx : u.heap.size = qx at *
  generalize (u.alloc (.cells #[Value.string { data := #[] }, Value.string { data := #[] }, Value.string { data := #[] }, Value.int .i64 0, Value.int .i64 0, Value.int .i64 0, Value.int .i64 0, Value.int .i64 0, Value.int .i64 0, Value.int .i64 0, Value.int .i64 0, Value.int .i64 0, Value.int .i64 0, Value.int .i64 0, Value.int .i64 0, Value.slice none 0 0, Value.int .i64 0, Value.int .i64 0, Value.slice none 0 0, Value.slice none 0 0] 28)).setCells qx 0 cs = v at *
  have HQx := hide hqx
  clear hqx
  have HTq : Hid (v.there q2 0 20) := fun j hj => by
    have hb : v.heap[q2]? = w1.heap[q2]? := (HBlk.out q2 (by have := HTu.out.size; rw [HS1.out, HQx.out] at this; omega)).trans (HTu.out.block q2 (by rw [HS1.out]; omega) (by simp))
    rw [World.cell?_of_block (a := ⟨q2, 0 + j, none⟩) hb, World.frozen?_of_block (a := ⟨q2, 0 + j, none⟩) hb]
    exact HTh.out j hj
  have hq2x : q2 < qx := by have := HTu.out.size; rw [HS1.out, HQx.out] at this; omega
  have HTall : Hid (Turn [] w v) := (Turn.ends HT1.out HTu.out (by rw [HQ2.out]; omega)).trans HTv.out
  go_wp2_with fail
  refine (rend HR3.out).mono ?_
  rintro e v2 ⟨rfl, hR2, nd, hv2⟩
  have HV2 := hide hv2
  have HTq2 : Hid (v2.there q2 0 20) := by rw [hv2]; exact HTq.out
  have HFx2 : Hid (v2.rangeAt qx 0 cs) := by rw [hv2]; exact HFx.out
  have HTall2 : Hid (Turn [] w v2) := by rw [hv2]; exact HTall.out.drewNr nd
  have HBlk2 : Hid (∀ x, x < qx → v2.heap[x]? = u.heap[x]?) := fun x hx => by rw [hv2]; exact HBlk.out x hx
  have HSz2 : Hid (v2.heap.size = v.heap.size) := by rw [hv2]; rfl
  clear hv2
  have HR2 := hide hR2
  clear hR2
  by_cases hf : endS T = 0
  · rw [hf]
    have HR6 := hide (World.rangeAt_setCells_same v2 q2 0 cs (by rw [hl]; exact HTq2.out))
    have HTend : Hid (Turn [] w (v2.setCells q2 0 cs)) := Turn.setCellsN HTall2.out q2 (by rw [HQ2.out]; omega) _ _
    have HF := hide hf
    clear hf
    go_wp2_with (first | ((with_reducible refine load_sz 28 20 sz28 _ qx 0 cs hl ?_ HFx2.out ?_); rfl) | ((with_reducible refine store_sz 28 20 sz28 _ _ q2 0 cs hl HOne.out ?_ ?_ HTq2.out ?_); rfl; rfl) | fail)
    refine bodyPost_ret (v := .tuple #[.agg cs.toArray, .int .i64 0]) (results_sz2 sz28 Try.results23 hl rfl rfl HR6.out) rfl ?_
    refine ⟨cs, 0, rfl, HF.out.symm, fun _ => ?_, fun k => absurd rfl k, HTend.out⟩
    have hTe : T.e = 0 := by
      have := HF.out
      unfold endS at this
      split at this
      · exact this
      · unfold refuseS at this
        split at this
        · cases this
        · assumption
    have hV := (HV.out hTe).keep (w' := v2.setCells q2 0 cs) (by rw [size_setCellsN, HSz2.out]; exact HTv.out.size) (fun x h1 h2 => (heap_setCellsN q2 x (by rw [HS1.out] at h1; omega) _ _ _).trans (HBlk2.out x (by rw [HQx.out] at h2; exact h2)))
    exact hV.base (by rw [HS1.out]; omega)
  · have hne : ¬ ((endS T : Nat) : Int) = 0 := fun k => hf (Int.ofNat.inj k)
    have HNe := hide hf
    clear hf
    go_wp2_with fail
    refine (rend HR2.out).mono ?_
    rintro e v3 ⟨rfl, _, nd2, hv3⟩
    have HTd : Hid (v3.there q2 0 20) := by rw [hv3]; exact HTq2.out
    have HTall3 : Hid (Turn [] w v3) := by rw [hv3]; exact HTall2.out.drewNr nd2
    clear hv3
    have hlz : (#[Value.string { data := #[] }, Value.string { data := #[] }, Value.string { data := #[] }, Value.int .i64 0, Value.int .i64 0, Value.int .i64 0, Value.int .i64 0, Value.int .i64 0, Value.int .i64 0, Value.int .i64 0, Value.int .i64 0, Value.int .i64 0, Value.int .i64 0, Value.int .i64 0, Value.int .i64 0, Value.slice none 0 0, Value.int .i64 0, Value.int .i64 0, Value.slice none 0 0, Value.slice none 0 0]).toList.length = 20 := rfl
    have HOz : Hid (∀ x ∈ (#[Value.string { data := #[] }, Value.string { data := #[] }, Value.string { data := #[] }, Value.int .i64 0, Value.int .i64 0, Value.int .i64 0, Value.int .i64 0, Value.int .i64 0, Value.int .i64 0, Value.int .i64 0, Value.int .i64 0, Value.int .i64 0, Value.int .i64 0, Value.int .i64 0, Value.int .i64 0, Value.slice none 0 0, Value.int .i64 0, Value.int .i64 0, Value.slice none 0 0, Value.slice none 0 0]).toList, x.oneCell' = true) := by show ∀ x ∈ _, _; decide
    have HR6 := hide (World.rangeAt_setCells_same v3 q2 0 (#[Value.string { data := #[] }, Value.string { data := #[] }, Value.string { data := #[] }, Value.int .i64 0, Value.int .i64 0, Value.int .i64 0, Value.int .i64 0, Value.int .i64 0, Value.int .i64 0, Value.int .i64 0, Value.int .i64 0, Value.int .i64 0, Value.int .i64 0, Value.int .i64 0, Value.int .i64 0, Value.slice none 0 0, Value.int .i64 0, Value.int .i64 0, Value.slice none 0 0, Value.slice none 0 0]).toList (by rw [hlz]; exact HTd.out))
    have HTend : Hid (Turn [] w (v3.setCells q2 0 (#[Value.string { data := #[] }, Value.string { data := #[] }, Value.string { data := #[] }, Value.int .i64 0, Value.int .i64 0, Value.int .i64 0, Value.int .i64 0, Value.int .i64 0, Value.int .i64 0, Value.int .i64 0, Value.int .i64 0, Value.int .i64 0, Value.int .i64 0, Value.int .i64 0, Value.int .i64 0, Value.slice none 0 0, Value.int .i64 0, Value.int .i64 0, Value.slice none 0 0, Value.slice none 0 0]).toList)) := Turn.setCellsN HTall3.out q2 (by rw [HQ2.out]; omega) _ _
    go_wp2_with (first | ((with_reducible refine store_sz 28 20 sz28 _ _ q2 0 (#[Value.string { data := #[] }, Value.string { data := #[] }, Value.string { data := #[] }, Value.int .i64 0, Value.int .i64 0, Value.int .i64 0, Value.int .i64 0, Value.int .i64 0, Value.int .i64 0, Value.int .i64 0, Value.int .i64 0, Value.int .i64 0, Value.int .i64 0, Value.int .i64 0, Value.int .i64 0, Value.slice none 0 0, Value.int .i64 0, Value.int .i64 0, Value.slice none 0 0, Value.slice none 0 0]).toList hlz HOz.out ?_ ?_ HTd.out ?_); rfl; rfl) | fail)
    refine bodyPost_ret (v := .tuple #[.agg (#[Value.string { data := #[] }, Value.string { data := #[] }, Value.string { data := #[] }, Value.int .i64 0, Value.int .i64 0, Value.int .i64 0, Value.int .i64 0, Value.int .i64 0, Value.int .i64 0, Value.int .i64 0, Value.int .i64 0, Value.int .i64 0, Value.int .i64 0, Value.int .i64 0, Value.int .i64 0, Value.slice none 0 0, Value.int .i64 0, Value.int .i64 0, Value.slice none 0 0, Value.slice none 0 0]), .int .i64 (endS T : Nat)]) (results_sz2 sz28 Try.results23 (cs := (#[Value.string { data := #[] }, Value.string { data := #[] }, Value.string { data := #[] }, Value.int .i64 0, Value.int .i64 0, Value.int .i64 0, Value.int .i64 0, Value.int .i64 0, Value.int .i64 0, Value.int .i64 0, Value.int .i64 0, Value.int .i64 0, Value.int .i64 0, Value.int .i64 0, Value.int .i64 0, Value.slice none 0 0, Value.int .i64 0, Value.int .i64 0, Value.slice none 0 0, Value.slice none 0 0]).toList) hlz rfl rfl HR6.out) rfl ?_
    exact ⟨zaccL, endS T, rfl, rfl, fun k => absurd k HNe.out, fun _ => rfl, HTend.out⟩

/-- What rpPlan answers. -/
def rpPlanP (w : World) (B : List Nat) (r : Ending) (w' : World) : Prop := ∃ f nm y1 y2 y3 y4 y5 y6 y7 y8 y9, parsedTi 9 B = (f, nm, [y1, y2, y3, y4, y5, y6, y7, y8, y9]) ∧ r = .returned (.tuple #[.agg #[.string nm, .int .i64 y1, .int .i64 y2, .int .i64 y3, .int .i64 y4, .int .i64 y5, .int .i64 y6, .int .i64 y7, .int .i64 y8, .int .i64 y9], .int .i64 (f : Nat)]) ∧ Turn [] w w'

set_option maxRecDepth 100000 in
set_option maxHeartbeats 6400000 in
theorem rpPlan {w : World} (a : Option Addr) (cap : Nat) (B : List Nat) (hB : BytesAt w a B) (hc : B.length ≤ cap) (hl : B.length ≤ 1000000) (hx : ∀ x ∈ B, x < 256) :
    Calls Try.prog 24 #[.slice a B.length cap] w fun r w' => rpPlanP w B r w' := by
  obtain ⟨w0, hw0⟩ : ∃ W, W = w.alloc (.cells #[Value.string { data := #[] }, Value.int .i64 0, Value.int .i64 0, Value.int .i64 0, Value.int .i64 0, Value.int .i64 0, Value.int .i64 0, Value.int .i64 0, Value.int .i64 0, Value.int .i64 0] 23) := ⟨_, rfl⟩
  obtain ⟨w1, hw1⟩ : ∃ W, W = w0.alloc (.cells #[.slice a B.length cap, .int .i64 0, .int .i64 0] 103) := ⟨_, rfl⟩
  have hT0 : Turn [] w w0 := by rw [hw0]; exact (Turn.refl [] w).alloc _
  have hT1 : Turn [] w w1 := by rw [hw1]; exact hT0.alloc _
  have s0 : w0.heap.size = w.heap.size + 1 := by rw [hw0]; simp
  have s1 : w1.heap.size = w.heap.size + 2 := by rw [hw1]; simp [s0]
  have hR : Rdr w1 (w.heap.size + 1) a cap B ⟨B, 0⟩ := by rw [hw1, ← s0]; exact rdr_new (hB.turn hT0 (by simp)) hc hl hx
  have hth : w1.there w.heap.size 0 10 := by
    rw [hw1]
    refine World.there_alloc ?_ _
    rw [hw0]
    exact there_new2 w #[Value.string { data := #[] }, Value.int .i64 0, Value.int .i64 0, Value.int .i64 0, Value.int .i64 0, Value.int .i64 0, Value.int .i64 0, Value.int .i64 0, Value.int .i64 0, Value.int .i64 0] 23
  have HC := hide (rdPlan hR)
  unfold rdPlanP at HC
  have hpt : parsedTi 9 B = (if endS (tiS .pr ⟨B, 0⟩ ByteArray.empty (List.replicate 9 0)).1 = 0 then (0, (tiS .pr ⟨B, 0⟩ ByteArray.empty (List.replicate 9 0)).2) else (endS (tiS .pr ⟨B, 0⟩ ByteArray.empty (List.replicate 9 0)).1, noText, List.replicate 9 0)) := rfl
  have hxl : (tiS .pr ⟨B, 0⟩ ByteArray.empty (List.replicate 9 0)).2.2.length = 9 := (tiS_length .pr _ _ _).trans rfl
  have htx : (tiS .pr ⟨B, 0⟩ ByteArray.empty (List.replicate 9 0)).1.e = 0 → (textS .pr ⟨B, 0⟩ ByteArray.empty).1.e = 0 := fun h => tiS_text h
  obtain ⟨⟨T, nm0, xs⟩, hT⟩ : ∃ X, tiS .pr ⟨B, 0⟩ ByteArray.empty (List.replicate 9 0) = X := ⟨_, rfl⟩
  rw [hT] at HC hxl htx hpt
  dsimp only at HC hxl htx hpt
  have HTx := hide htx
  have HPt := hide (fun (_ : Unit) => hpt)
  clear hT hpt htx
  have HTh := hide hth
  have HT1 := hide hT1
  have HS1 := hide s1
  rw [hw0] at hw1
  have HW1 := hide hw1
  clear hT0 hT1 s0 s1 hR hth hw0 hw1 hB hc hl hx w0
  generalize hq2 : w.heap.size = q2 at *
  go_enter Try.func24, Try.ntmps24
  go_wp2_with fail
  rw [← HW1.out]
  have HQ2 := hide hq2
  clear hq2 HW1
  refine HC.out.mono ?_
  rintro e u ⟨nm, rfl, hR, hnm, hT⟩
  have HNm := hide hnm
  obtain ⟨cs, hcs⟩ : ∃ cs, cs = (Value.string nm :: intC xs) := ⟨_, rfl⟩
  rw [← hcs]
  have hl : cs.length = 10 := by rw [hcs, List.length_cons, intC_length, hxl]
  have HOne : Hid (∀ x ∈ cs, x.oneCell' = true) := fun x hx => by
    rw [hcs] at hx
    rcases List.mem_cons.1 hx with rfl | hx
    · rfl
    · exact ints_one _ x hx
  have HCs := hide hcs
  have HXl := hide hxl
  clear hcs hnm hxl
  have HZt : Hid ((u.alloc (.cells #[Value.string { data := #[] }, Value.int .i64 0, Value.int .i64 0, Value.int .i64 0, Value.int .i64 0, Value.int .i64 0, Value.int .i64 0, Value.int .i64 0, Value.int .i64 0, Value.int .i64 0] 23)).there u.heap.size 0 10) := there_new2 u #[Value.string { data := #[] }, Value.int .i64 0, Value.int .i64 0, Value.int .i64 0, Value.int .i64 0, Value.int .i64 0, Value.int .i64 0, Value.int .i64 0, Value.int .i64 0, Value.int .i64 0] 23
  have HTu := hide hT
  have HR3 : Hid (Rdr ((u.alloc (.cells #[Value.string { data := #[] }, Value.int .i64 0, Value.int .i64 0, Value.int .i64 0, Value.int .i64 0, Value.int .i64 0, Value.int .i64 0, Value.int .i64 0, Value.int .i64 0, Value.int .i64 0] 23)).setCells u.heap.size 0 cs) (q2 + 1) a cap B T) := rdr_far (hR.keep (w' := u.alloc (.cells #[Value.string { data := #[] }, Value.int .i64 0, Value.int .i64 0, Value.int .i64 0, Value.int .i64 0, Value.int .i64 0, Value.int .i64 0, Value.int .i64 0, Value.int .i64 0, Value.int .i64 0] 23)) (fun x hx => Below.heap_alloc u _ x hx)) (heap_setCellsN u.heap.size (q2 + 1) (Nat.ne_of_lt hR.at) _ _ _) (fun x hx e => heap_setCellsN u.heap.size x.block (Nat.ne_of_lt (hR.hB.lt x hx e)) _ _ _)
  have HBlk : Hid (∀ x, x < u.heap.size → ((u.alloc (.cells #[Value.string { data := #[] }, Value.int .i64 0, Value.int .i64 0, Value.int .i64 0, Value.int .i64 0, Value.int .i64 0, Value.int .i64 0, Value.int .i64 0, Value.int .i64 0, Value.int .i64 0] 23)).setCells u.heap.size 0 cs).heap[x]? = u.heap[x]?) := fun x hx => (heap_setCellsN u.heap.size x (Nat.ne_of_lt hx) _ _ _).trans (Below.heap_alloc u _ x hx)
  have HTv : Hid (Turn [] u ((u.alloc (.cells #[Value.string { data := #[] }, Value.int .i64 0, Value.int .i64 0, Value.int .i64 0, Value.int .i64 0, Value.int .i64 0, Value.int .i64 0, Value.int .i64 0, Value.int .i64 0, Value.int .i64 0] 23)).setCells u.heap.size 0 cs)) := Turn.setCellsN ((Turn.refl [] u).alloc _) _ (Nat.le_refl _) _ _
  have HFx : Hid (((u.alloc (.cells #[Value.string { data := #[] }, Value.int .i64 0, Value.int .i64 0, Value.int .i64 0, Value.int .i64 0, Value.int .i64 0, Value.int .i64 0, Value.int .i64 0, Value.int .i64 0, Value.int .i64 0] 23)).setCells u.heap.size 0 cs).rangeAt u.heap.size 0 cs) := World.rangeAt_setCells_same _ _ _ _ (by rw [hl]; exact HZt.out)
  clear hR hT
  go_upto_region 3 with (first | ((with_reducible refine store_sz 23 10 sz23 _ _ u.heap.size 0 cs hl HOne.out ?_ ?_ HZt.out ?_); rfl; rfl) | fail)
  generalize hqx : u.heap.size = qx at *
  generalize (u.alloc (.cells #[Value.string { data := #[] }, Value.int .i64 0, Value.int .i64 0, Value.int .i64 0, Value.int .i64 0, Value.int .i64 0, Value.int .i64 0, Value.int .i64 0, Value.int .i64 0, Value.int .i64 0] 23)).setCells qx 0 cs = v at *
  have HQx := hide hqx
  clear hqx
  have HTq : Hid (v.there q2 0 10) := fun j hj => by
    have hb : v.heap[q2]? = w1.heap[q2]? := (HBlk.out q2 (by have := HTu.out.size; rw [HS1.out, HQx.out] at this; omega)).trans (HTu.out.block q2 (by rw [HS1.out]; omega) (by simp))
    rw [World.cell?_of_block (a := ⟨q2, 0 + j, none⟩) hb, World.frozen?_of_block (a := ⟨q2, 0 + j, none⟩) hb]
    exact HTh.out j hj
  have hq2x : q2 < qx := by have := HTu.out.size; rw [HS1.out, HQx.out] at this; omega
  have HTall : Hid (Turn [] w v) := (Turn.ends HT1.out HTu.out (by rw [HQ2.out]; omega)).trans HTv.out
  go_wp2_with fail
  refine (rend HR3.out).mono ?_
  rintro e v2 ⟨rfl, hR2, nd, hv2⟩
  have HV2 := hide hv2
  have HTq2 : Hid (v2.there q2 0 10) := by rw [hv2]; exact HTq.out
  have HFx2 : Hid (v2.rangeAt qx 0 cs) := by rw [hv2]; exact HFx.out
  have HTall2 : Hid (Turn [] w v2) := by rw [hv2]; exact HTall.out.drewNr nd
  have HBlk2 : Hid (∀ x, x < qx → v2.heap[x]? = u.heap[x]?) := fun x hx => by rw [hv2]; exact HBlk.out x hx
  have HSz2 : Hid (v2.heap.size = v.heap.size) := by rw [hv2]; rfl
  clear hv2
  have HR2 := hide hR2
  clear hR2
  by_cases hf : endS T = 0
  · rw [hf]
    have HR6 := hide (World.rangeAt_setCells_same v2 q2 0 cs (by rw [hl]; exact HTq2.out))
    have HTend : Hid (Turn [] w (v2.setCells q2 0 cs)) := Turn.setCellsN HTall2.out q2 (by rw [HQ2.out]; omega) _ _
    have HF := hide hf
    clear hf
    go_wp2_with (first | ((with_reducible refine load_sz 23 10 sz23 _ qx 0 cs hl ?_ HFx2.out ?_); rfl) | ((with_reducible refine store_sz 23 10 sz23 _ _ q2 0 cs hl HOne.out ?_ ?_ HTq2.out ?_); rfl; rfl) | fail)
    refine bodyPost_ret (v := .tuple #[.agg cs.toArray, .int .i64 0]) (results_sz2 sz23 Try.results24 hl rfl rfl HR6.out) rfl ?_
    have hTe : T.e = 0 := by
      have := HF.out
      unfold endS at this
      split at this
      · exact this
      · unfold refuseS at this
        split at this
        · cases this
        · assumption
    have hpt := HPt.out ()
    rw [if_pos HF.out, ← HNm.out (HTx.out hTe)] at hpt
    obtain ⟨y1,y2,y3,y4,y5,y6,y7,y8,y9, hy⟩ : ∃ y1 y2 y3 y4 y5 y6 y7 y8 y9, xs = [y1, y2, y3, y4, y5, y6, y7, y8, y9] := by
      match xs, HXl.out with
      | [y1, y2, y3, y4, y5, y6, y7, y8, y9], _ => exact ⟨y1, y2, y3, y4, y5, y6, y7, y8, y9, rfl⟩
    refine ⟨0, nm, y1, y2, y3, y4, y5, y6, y7, y8, y9, by rw [hpt, hy], ?_, HTend.out⟩
    rw [HCs.out, hy]
    rfl
  · have hne : ¬ ((endS T : Nat) : Int) = 0 := fun k => hf (Int.ofNat.inj k)
    have HNe := hide hf
    clear hf
    go_wp2_with fail
    refine (rend HR2.out).mono ?_
    rintro e v3 ⟨rfl, _, nd2, hv3⟩
    have HTd : Hid (v3.there q2 0 10) := by rw [hv3]; exact HTq2.out
    have HTall3 : Hid (Turn [] w v3) := by rw [hv3]; exact HTall2.out.drewNr nd2
    clear hv3
    have hlz : (#[Value.string { data := #[] }, Value.int .i64 0, Value.int .i64 0, Value.int .i64 0, Value.int .i64 0, Value.int .i64 0, Value.int .i64 0, Value.int .i64 0, Value.int .i64 0, Value.int .i64 0]).toList.length = 10 := rfl
    have HOz : Hid (∀ x ∈ (#[Value.string { data := #[] }, Value.int .i64 0, Value.int .i64 0, Value.int .i64 0, Value.int .i64 0, Value.int .i64 0, Value.int .i64 0, Value.int .i64 0, Value.int .i64 0, Value.int .i64 0]).toList, x.oneCell' = true) := by show ∀ x ∈ _, _; decide
    have HR6 := hide (World.rangeAt_setCells_same v3 q2 0 (#[Value.string { data := #[] }, Value.int .i64 0, Value.int .i64 0, Value.int .i64 0, Value.int .i64 0, Value.int .i64 0, Value.int .i64 0, Value.int .i64 0, Value.int .i64 0, Value.int .i64 0]).toList (by rw [hlz]; exact HTd.out))
    have HTend : Hid (Turn [] w (v3.setCells q2 0 (#[Value.string { data := #[] }, Value.int .i64 0, Value.int .i64 0, Value.int .i64 0, Value.int .i64 0, Value.int .i64 0, Value.int .i64 0, Value.int .i64 0, Value.int .i64 0, Value.int .i64 0]).toList)) := Turn.setCellsN HTall3.out q2 (by rw [HQ2.out]; omega) _ _
    go_wp2_with (first | ((with_reducible refine store_sz 23 10 sz23 _ _ q2 0 (#[Value.string { data := #[] }, Value.int .i64 0, Value.int .i64 0, Value.int .i64 0, Value.int .i64 0, Value.int .i64 0, Value.int .i64 0, Value.int .i64 0, Value.int .i64 0, Value.int .i64 0]).toList hlz HOz.out ?_ ?_ HTd.out ?_); rfl; rfl) | fail)
    refine bodyPost_ret (v := .tuple #[.agg (#[Value.string { data := #[] }, Value.int .i64 0, Value.int .i64 0, Value.int .i64 0, Value.int .i64 0, Value.int .i64 0, Value.int .i64 0, Value.int .i64 0, Value.int .i64 0, Value.int .i64 0]), .int .i64 (endS T : Nat)]) (results_sz2 sz23 Try.results24 (cs := (#[Value.string { data := #[] }, Value.int .i64 0, Value.int .i64 0, Value.int .i64 0, Value.int .i64 0, Value.int .i64 0, Value.int .i64 0, Value.int .i64 0, Value.int .i64 0, Value.int .i64 0]).toList) hlz rfl rfl HR6.out) rfl ?_
    have hpt := HPt.out ()
    rw [if_neg HNe.out] at hpt
    have hpt2 : parsedTi 9 B = (endS T, noText, [0, 0, 0, 0, 0, 0, 0, 0, 0]) := by rw [hpt]; rfl
    generalize endS T = fT at *
    exact ⟨fT, noText, 0, 0, 0, 0, 0, 0, 0, 0, 0, hpt2, rfl, HTend.out⟩

/-- What rpStm answers. -/
def rpStmP (w : World) (B : List Nat) (r : Ending) (w' : World) : Prop := ∃ f nm y1 y2 y3 y4 y5 y6 y7 y8, parsedTi 8 B = (f, nm, [y1, y2, y3, y4, y5, y6, y7, y8]) ∧ r = .returned (.tuple #[.agg #[.string nm, .int .i64 y1, .int .i64 y2, .int .i64 y3, .int .i64 y4, .int .i64 y5, .int .i64 y6, .int .i64 y7, .int .i64 y8], .int .i64 (f : Nat)]) ∧ Turn [] w w'

set_option maxRecDepth 100000 in
set_option maxHeartbeats 6400000 in
theorem rpStm {w : World} (a : Option Addr) (cap : Nat) (B : List Nat) (hB : BytesAt w a B) (hc : B.length ≤ cap) (hl : B.length ≤ 1000000) (hx : ∀ x ∈ B, x < 256) :
    Calls Try.prog 25 #[.slice a B.length cap] w fun r w' => rpStmP w B r w' := by
  obtain ⟨w0, hw0⟩ : ∃ W, W = w.alloc (.cells #[Value.string { data := #[] }, Value.int .i64 0, Value.int .i64 0, Value.int .i64 0, Value.int .i64 0, Value.int .i64 0, Value.int .i64 0, Value.int .i64 0, Value.int .i64 0] 40) := ⟨_, rfl⟩
  obtain ⟨w1, hw1⟩ : ∃ W, W = w0.alloc (.cells #[.slice a B.length cap, .int .i64 0, .int .i64 0] 103) := ⟨_, rfl⟩
  have hT0 : Turn [] w w0 := by rw [hw0]; exact (Turn.refl [] w).alloc _
  have hT1 : Turn [] w w1 := by rw [hw1]; exact hT0.alloc _
  have s0 : w0.heap.size = w.heap.size + 1 := by rw [hw0]; simp
  have s1 : w1.heap.size = w.heap.size + 2 := by rw [hw1]; simp [s0]
  have hR : Rdr w1 (w.heap.size + 1) a cap B ⟨B, 0⟩ := by rw [hw1, ← s0]; exact rdr_new (hB.turn hT0 (by simp)) hc hl hx
  have hth : w1.there w.heap.size 0 9 := by
    rw [hw1]
    refine World.there_alloc ?_ _
    rw [hw0]
    exact there_new2 w #[Value.string { data := #[] }, Value.int .i64 0, Value.int .i64 0, Value.int .i64 0, Value.int .i64 0, Value.int .i64 0, Value.int .i64 0, Value.int .i64 0, Value.int .i64 0] 40
  have HC := hide (rdStm hR)
  unfold rdStmP at HC
  have hpt : parsedTi 8 B = (if endS (tiS .pr ⟨B, 0⟩ ByteArray.empty (List.replicate 8 0)).1 = 0 then (0, (tiS .pr ⟨B, 0⟩ ByteArray.empty (List.replicate 8 0)).2) else (endS (tiS .pr ⟨B, 0⟩ ByteArray.empty (List.replicate 8 0)).1, noText, List.replicate 8 0)) := rfl
  have hxl : (tiS .pr ⟨B, 0⟩ ByteArray.empty (List.replicate 8 0)).2.2.length = 8 := (tiS_length .pr _ _ _).trans rfl
  have htx : (tiS .pr ⟨B, 0⟩ ByteArray.empty (List.replicate 8 0)).1.e = 0 → (textS .pr ⟨B, 0⟩ ByteArray.empty).1.e = 0 := fun h => tiS_text h
  obtain ⟨⟨T, nm0, xs⟩, hT⟩ : ∃ X, tiS .pr ⟨B, 0⟩ ByteArray.empty (List.replicate 8 0) = X := ⟨_, rfl⟩
  rw [hT] at HC hxl htx hpt
  dsimp only at HC hxl htx hpt
  have HTx := hide htx
  have HPt := hide (fun (_ : Unit) => hpt)
  clear hT hpt htx
  have HTh := hide hth
  have HT1 := hide hT1
  have HS1 := hide s1
  rw [hw0] at hw1
  have HW1 := hide hw1
  clear hT0 hT1 s0 s1 hR hth hw0 hw1 hB hc hl hx w0
  generalize hq2 : w.heap.size = q2 at *
  go_enter Try.func25, Try.ntmps25
  go_wp2_with fail
  rw [← HW1.out]
  have HQ2 := hide hq2
  clear hq2 HW1
  refine HC.out.mono ?_
  rintro e u ⟨nm, rfl, hR, hnm, hT⟩
  have HNm := hide hnm
  obtain ⟨cs, hcs⟩ : ∃ cs, cs = (Value.string nm :: intC xs) := ⟨_, rfl⟩
  rw [← hcs]
  have hl : cs.length = 9 := by rw [hcs, List.length_cons, intC_length, hxl]
  have HOne : Hid (∀ x ∈ cs, x.oneCell' = true) := fun x hx => by
    rw [hcs] at hx
    rcases List.mem_cons.1 hx with rfl | hx
    · rfl
    · exact ints_one _ x hx
  have HCs := hide hcs
  have HXl := hide hxl
  clear hcs hnm hxl
  have HZt : Hid ((u.alloc (.cells #[Value.string { data := #[] }, Value.int .i64 0, Value.int .i64 0, Value.int .i64 0, Value.int .i64 0, Value.int .i64 0, Value.int .i64 0, Value.int .i64 0, Value.int .i64 0] 40)).there u.heap.size 0 9) := there_new2 u #[Value.string { data := #[] }, Value.int .i64 0, Value.int .i64 0, Value.int .i64 0, Value.int .i64 0, Value.int .i64 0, Value.int .i64 0, Value.int .i64 0, Value.int .i64 0] 40
  have HTu := hide hT
  have HR3 : Hid (Rdr ((u.alloc (.cells #[Value.string { data := #[] }, Value.int .i64 0, Value.int .i64 0, Value.int .i64 0, Value.int .i64 0, Value.int .i64 0, Value.int .i64 0, Value.int .i64 0, Value.int .i64 0] 40)).setCells u.heap.size 0 cs) (q2 + 1) a cap B T) := rdr_far (hR.keep (w' := u.alloc (.cells #[Value.string { data := #[] }, Value.int .i64 0, Value.int .i64 0, Value.int .i64 0, Value.int .i64 0, Value.int .i64 0, Value.int .i64 0, Value.int .i64 0, Value.int .i64 0] 40)) (fun x hx => Below.heap_alloc u _ x hx)) (heap_setCellsN u.heap.size (q2 + 1) (Nat.ne_of_lt hR.at) _ _ _) (fun x hx e => heap_setCellsN u.heap.size x.block (Nat.ne_of_lt (hR.hB.lt x hx e)) _ _ _)
  have HBlk : Hid (∀ x, x < u.heap.size → ((u.alloc (.cells #[Value.string { data := #[] }, Value.int .i64 0, Value.int .i64 0, Value.int .i64 0, Value.int .i64 0, Value.int .i64 0, Value.int .i64 0, Value.int .i64 0, Value.int .i64 0] 40)).setCells u.heap.size 0 cs).heap[x]? = u.heap[x]?) := fun x hx => (heap_setCellsN u.heap.size x (Nat.ne_of_lt hx) _ _ _).trans (Below.heap_alloc u _ x hx)
  have HTv : Hid (Turn [] u ((u.alloc (.cells #[Value.string { data := #[] }, Value.int .i64 0, Value.int .i64 0, Value.int .i64 0, Value.int .i64 0, Value.int .i64 0, Value.int .i64 0, Value.int .i64 0, Value.int .i64 0] 40)).setCells u.heap.size 0 cs)) := Turn.setCellsN ((Turn.refl [] u).alloc _) _ (Nat.le_refl _) _ _
  have HFx : Hid (((u.alloc (.cells #[Value.string { data := #[] }, Value.int .i64 0, Value.int .i64 0, Value.int .i64 0, Value.int .i64 0, Value.int .i64 0, Value.int .i64 0, Value.int .i64 0, Value.int .i64 0] 40)).setCells u.heap.size 0 cs).rangeAt u.heap.size 0 cs) := World.rangeAt_setCells_same _ _ _ _ (by rw [hl]; exact HZt.out)
  clear hR hT
  go_upto_region 3 with (first | ((with_reducible refine store_sz 40 9 sz40 _ _ u.heap.size 0 cs hl HOne.out ?_ ?_ HZt.out ?_); rfl; rfl) | fail)
  generalize hqx : u.heap.size = qx at *
  generalize (u.alloc (.cells #[Value.string { data := #[] }, Value.int .i64 0, Value.int .i64 0, Value.int .i64 0, Value.int .i64 0, Value.int .i64 0, Value.int .i64 0, Value.int .i64 0, Value.int .i64 0] 40)).setCells qx 0 cs = v at *
  have HQx := hide hqx
  clear hqx
  have HTq : Hid (v.there q2 0 9) := fun j hj => by
    have hb : v.heap[q2]? = w1.heap[q2]? := (HBlk.out q2 (by have := HTu.out.size; rw [HS1.out, HQx.out] at this; omega)).trans (HTu.out.block q2 (by rw [HS1.out]; omega) (by simp))
    rw [World.cell?_of_block (a := ⟨q2, 0 + j, none⟩) hb, World.frozen?_of_block (a := ⟨q2, 0 + j, none⟩) hb]
    exact HTh.out j hj
  have hq2x : q2 < qx := by have := HTu.out.size; rw [HS1.out, HQx.out] at this; omega
  have HTall : Hid (Turn [] w v) := (Turn.ends HT1.out HTu.out (by rw [HQ2.out]; omega)).trans HTv.out
  go_wp2_with fail
  refine (rend HR3.out).mono ?_
  rintro e v2 ⟨rfl, hR2, nd, hv2⟩
  have HV2 := hide hv2
  have HTq2 : Hid (v2.there q2 0 9) := by rw [hv2]; exact HTq.out
  have HFx2 : Hid (v2.rangeAt qx 0 cs) := by rw [hv2]; exact HFx.out
  have HTall2 : Hid (Turn [] w v2) := by rw [hv2]; exact HTall.out.drewNr nd
  have HBlk2 : Hid (∀ x, x < qx → v2.heap[x]? = u.heap[x]?) := fun x hx => by rw [hv2]; exact HBlk.out x hx
  have HSz2 : Hid (v2.heap.size = v.heap.size) := by rw [hv2]; rfl
  clear hv2
  have HR2 := hide hR2
  clear hR2
  by_cases hf : endS T = 0
  · rw [hf]
    have HR6 := hide (World.rangeAt_setCells_same v2 q2 0 cs (by rw [hl]; exact HTq2.out))
    have HTend : Hid (Turn [] w (v2.setCells q2 0 cs)) := Turn.setCellsN HTall2.out q2 (by rw [HQ2.out]; omega) _ _
    have HF := hide hf
    clear hf
    go_wp2_with (first | ((with_reducible refine load_sz 40 9 sz40 _ qx 0 cs hl ?_ HFx2.out ?_); rfl) | ((with_reducible refine store_sz 40 9 sz40 _ _ q2 0 cs hl HOne.out ?_ ?_ HTq2.out ?_); rfl; rfl) | fail)
    refine bodyPost_ret (v := .tuple #[.agg cs.toArray, .int .i64 0]) (results_sz2 sz40 Try.results25 hl rfl rfl HR6.out) rfl ?_
    have hTe : T.e = 0 := by
      have := HF.out
      unfold endS at this
      split at this
      · exact this
      · unfold refuseS at this
        split at this
        · cases this
        · assumption
    have hpt := HPt.out ()
    rw [if_pos HF.out, ← HNm.out (HTx.out hTe)] at hpt
    obtain ⟨y1,y2,y3,y4,y5,y6,y7,y8, hy⟩ : ∃ y1 y2 y3 y4 y5 y6 y7 y8, xs = [y1, y2, y3, y4, y5, y6, y7, y8] := by
      match xs, HXl.out with
      | [y1, y2, y3, y4, y5, y6, y7, y8], _ => exact ⟨y1, y2, y3, y4, y5, y6, y7, y8, rfl⟩
    refine ⟨0, nm, y1, y2, y3, y4, y5, y6, y7, y8, by rw [hpt, hy], ?_, HTend.out⟩
    rw [HCs.out, hy]
    rfl
  · have hne : ¬ ((endS T : Nat) : Int) = 0 := fun k => hf (Int.ofNat.inj k)
    have HNe := hide hf
    clear hf
    go_wp2_with fail
    refine (rend HR2.out).mono ?_
    rintro e v3 ⟨rfl, _, nd2, hv3⟩
    have HTd : Hid (v3.there q2 0 9) := by rw [hv3]; exact HTq2.out
    have HTall3 : Hid (Turn [] w v3) := by rw [hv3]; exact HTall2.out.drewNr nd2
    clear hv3
    have hlz : (#[Value.string { data := #[] }, Value.int .i64 0, Value.int .i64 0, Value.int .i64 0, Value.int .i64 0, Value.int .i64 0, Value.int .i64 0, Value.int .i64 0, Value.int .i64 0]).toList.length = 9 := rfl
    have HOz : Hid (∀ x ∈ (#[Value.string { data := #[] }, Value.int .i64 0, Value.int .i64 0, Value.int .i64 0, Value.int .i64 0, Value.int .i64 0, Value.int .i64 0, Value.int .i64 0, Value.int .i64 0]).toList, x.oneCell' = true) := by show ∀ x ∈ _, _; decide
    have HR6 := hide (World.rangeAt_setCells_same v3 q2 0 (#[Value.string { data := #[] }, Value.int .i64 0, Value.int .i64 0, Value.int .i64 0, Value.int .i64 0, Value.int .i64 0, Value.int .i64 0, Value.int .i64 0, Value.int .i64 0]).toList (by rw [hlz]; exact HTd.out))
    have HTend : Hid (Turn [] w (v3.setCells q2 0 (#[Value.string { data := #[] }, Value.int .i64 0, Value.int .i64 0, Value.int .i64 0, Value.int .i64 0, Value.int .i64 0, Value.int .i64 0, Value.int .i64 0, Value.int .i64 0]).toList)) := Turn.setCellsN HTall3.out q2 (by rw [HQ2.out]; omega) _ _
    go_wp2_with (first | ((with_reducible refine store_sz 40 9 sz40 _ _ q2 0 (#[Value.string { data := #[] }, Value.int .i64 0, Value.int .i64 0, Value.int .i64 0, Value.int .i64 0, Value.int .i64 0, Value.int .i64 0, Value.int .i64 0, Value.int .i64 0]).toList hlz HOz.out ?_ ?_ HTd.out ?_); rfl; rfl) | fail)
    refine bodyPost_ret (v := .tuple #[.agg (#[Value.string { data := #[] }, Value.int .i64 0, Value.int .i64 0, Value.int .i64 0, Value.int .i64 0, Value.int .i64 0, Value.int .i64 0, Value.int .i64 0, Value.int .i64 0]), .int .i64 (endS T : Nat)]) (results_sz2 sz40 Try.results25 (cs := (#[Value.string { data := #[] }, Value.int .i64 0, Value.int .i64 0, Value.int .i64 0, Value.int .i64 0, Value.int .i64 0, Value.int .i64 0, Value.int .i64 0, Value.int .i64 0]).toList) hlz rfl rfl HR6.out) rfl ?_
    have hpt := HPt.out ()
    rw [if_neg HNe.out] at hpt
    have hpt2 : parsedTi 8 B = (endS T, noText, [0, 0, 0, 0, 0, 0, 0, 0]) := by rw [hpt]; rfl
    generalize endS T = fT at *
    exact ⟨fT, noText, 0, 0, 0, 0, 0, 0, 0, 0, hpt2, rfl, HTend.out⟩
end Go.Proofs.Ytghgkjollafeiaa

