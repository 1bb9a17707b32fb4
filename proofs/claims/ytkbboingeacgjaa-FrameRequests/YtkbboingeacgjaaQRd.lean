/-
  A parser's methods, walked.
-/
import Derived.Test.YtkbboingeacgjaaQCar
import Derived.Deep.RegionWith
import Derived.BigRegion
namespace Go.Proofs.Ytkbboingeacgjaa
open Go.RowKit

/-- A parser's cells turned. -/
theorem PrAt.keep {w w' : World} {O R : Nat → Prop} {b g : Nat} {s : Sx} (h : PrAt w O R b g s) {P : Nat → Prop} (hK : Keep P w w') (hO : ∀ x, O x → P x) (hb : P b) : PrAt w' O R b g s := by
  have hbl := lt_of_cell h.c1
  obtain ⟨a, cap, h0, h1, h2, h3, h4, h5⟩ := h.src
  exact ⟨⟨a, cap, (hK.cell hbl hb).trans h0, h1, h2, h3, hK.bytes h4 (fun x hl hx => by rw [h5 x hl hx]; exact hO _ h.og), h5⟩, (hK.cell hbl hb).trans h.c1, fun o => (hK.fz hbl hb).trans (h.fz o), h.ob, h.by8, h.og⟩

theorem PrAt.fault {w : World} {O R : Nat → Prop} {b g : Nat} {s : Sx} (h : PrAt w O R b g s) (e : Nat) : PrAt (w.setCell ⟨b, 1, none⟩ (.int .i64 (e : Nat))) O R b g ⟨s.l, e⟩ := by
  obtain ⟨a, cap, h0, h1, h2, h3, h4, h5⟩ := h.src
  refine ⟨⟨a, cap, ?_, h1, h2, h3, ?_, h5⟩, World.cell?_setCell_same _ _ _ h.c1, fun o => by rw [World.frozen?_setCell]; exact h.fz o, h.ob, h.by8, h.og⟩
  · rw [World.cell?_setCell_other _ _ _ _ (off_ne (by omega))]; exact h0
  · exact h4.keep (fun x hl hx => Below.heap_setCell w ⟨b, 1, none⟩ _ _ (fun e => h.ob.1 (by have e : x.block = b := e; rw [← e, h5 x hl hx]; exact h.og)))

set_option maxRecDepth 100000 in
theorem prefuse {w : World} {O R : Nat → Prop} {b g : Nat} {s : Sx} (e : Nat) (h : PrAt w O R b g s) :
    Calls Try.prog 63 #[.pointer (some ⟨b, 0, none⟩), .int .i64 (e : Nat)] w fun r w' => r = .returned (.tuple #[]) ∧ PrAt w' O R b g (refuseS s e) ∧ Keep (fun x => x ≠ b) w w' := by
  have h1 := h.c1
  have f1 := h.fz 1
  have H := hide h
  clear h
  by_cases he : s.e = 0
  · rw [he] at h1
    have HR : Hid (refuseS s e = ⟨s.l, e⟩) := by show _ = _; unfold refuseS; rw [if_pos he]
    clear he
    go_enter Try.func63, Try.ntmps63
    go_wp2_with fail
    go_end0
    exact ⟨rfl, by rw [HR.out]; exact H.out.fault e, (Keep.refl _ w).setCell (.inl (by simp)) _ _⟩
  · have HR : Hid (refuseS s e = s) := by show _ = _; unfold refuseS; rw [if_neg he]
    have hne : ¬ ((s.e : Int) = 0) := by omega
    go_enter Try.func63, Try.ntmps63
    go_wp2_with fail
    go_end0
    exact ⟨rfl, by rw [HR.out]; exact H.out, Keep.refl _ w⟩

set_option maxRecDepth 100000 in
theorem pend {w : World} {O R : Nat → Prop} {b g : Nat} {s : Sx} (h : PrAt w O R b g s) :
    Calls Try.prog 61 #[.pointer (some ⟨b, 0, none⟩)] w fun r w' => r = .returned (.int .i64 ((if s.l = [] then s else refuseS s 9).e : Nat)) ∧ Keep (fun x => x ≠ b) w w' := by
  obtain ⟨a, cap, h0, _⟩ := h.src
  have h1 := h.c1
  have H := hide h
  clear h
  by_cases hl : s.l = []
  · have hlen : s.l.length = 0 := by rw [hl]; rfl
    rw [hlen] at h0
    rw [if_pos hl]
    clear hl hlen
    go_enter Try.func61, Try.ntmps61
    go_wp2_with fail
    go_ret
    exact ⟨rfl, Keep.refl _ w⟩
  · have hlen : 0 < s.l.length := List.length_pos_iff.2 hl
    rw [if_neg hl]
    go_enter Try.func61, Try.ntmps61
    go_wp2_with fail
    refine (prefuse 9 H.out).mono ?_
    rintro e w1 ⟨rfl, hP, hK⟩
    have h11 := hP.c1
    have HK := hide hK
    clear hP hK
    go_wp2_with fail
    go_ret
    exact ⟨rfl, HK.out⟩

theorem BytesAt.drop {w : World} {b off : Nat} {l : List Nat} (h : BytesAt w (some ⟨b, off, none⟩) l) (n : Nat) : BytesAt w (some ⟨b, off + n, none⟩) (l.drop n) := by
  by_cases hn : l.drop n = []
  · exact .inl hn
  · refine .inr ⟨b, off + n, rfl, fun i hi => ?_⟩
    rw [List.length_drop] at hi
    obtain ⟨b', off', e, hc⟩ := h.at (show n + i < l.length by omega)
    obtain ⟨rfl, rfl⟩ : b' = b ∧ off' = off := by
      have := Option.some.inj e
      exact ⟨(congrArg Addr.block this).symm, (congrArg Addr.off this).symm⟩
    rw [Nat.add_assoc, hc, List.getD_eq_getElem?_getD, List.getElem?_drop, List.getElem?_eq_getElem (by omega)]
    rfl
theorem BytesAt.take {w : World} {b off : Nat} {l : List Nat} (h : BytesAt w (some ⟨b, off, none⟩) l) (n : Nat) : BytesAt w (some ⟨b, off, none⟩) (l.take n) := by
  refine .inr ⟨b, off, rfl, fun i hi => ?_⟩
  rw [List.length_take] at hi
  obtain ⟨b', off', e, hc⟩ := h.at (show i < l.length by omega)
  obtain ⟨rfl, rfl⟩ : b' = b ∧ off' = off := by
    have := Option.some.inj e
    exact ⟨(congrArg Addr.block this).symm, (congrArg Addr.off this).symm⟩
  rw [hc, List.getD_eq_getElem?_getD, List.getElem?_take, if_pos (by omega), List.getElem?_eq_getElem (by omega)]
  rfl

/-- What 'take' hands out. -/
structure Took (w' : World) (O R : Nat → Prop) (b g n : Nat) (s : Sx) (l : List Nat) (v : Value) : Prop where
  st : PrAt w' O R b g s
  v : ∃ a cap, v = .slice a n cap ∧ BytesAt w' a l

def zs (n : Nat) : Array Value := ((List.replicate n 0).map byteCell).toArray
theorem make_n (w : World) (n : Nat) (hn : n ≤ 255) : (Instr.makeSlice 26 (.int .i64 (n : Nat)) (.int .i64 (n : Nat))).run Try.prog w = .ok (.slice (some ⟨w.heap.size, 0, none⟩) n n) (w.alloc (.cells (zs n) 5)) := by
  obtain ⟨i0, hi, hz0, hz1, hz2⟩ := info_parts info5
  have h := run_make (P := Try.prog) w 26 5 i0 (.int .u8 0) Try.underlying26 hi hz0 .i64 .i64 (n : Int) (n : Int) (by omega) (by omega) (by rw [hz2]; omega) (by omega)
  have e : madeCells (Value.int .u8 0).cells ((n : Int).toNat * i0.size) = zs n := by
    apply Array.toList_inj.1
    rw [show (Value.int .u8 0).cells = #[Value.int .u8 0] from rfl, toList_madeCells_one, hz1]
    rw [Nat.mul_one, Int.toNat_natCast]
    show List.replicate n (Value.int .u8 0) = (List.replicate n 0).map byteCell
    rw [List.map_replicate]
    rfl
  rw [h, e]
  rfl

theorem took_zeros {w1 : World} {O R : Nat → Prop} {b g n : Nat} {s : Sx} (h : PrAt w1 O R b g s) : Took (w1.alloc (.cells (zs n) 5)) O R b g n s (List.replicate n 0) (.slice (some ⟨w1.heap.size, 0, none⟩) n n) :=
  ⟨h.keep (P := fun x => x < w1.heap.size ∨ True) ((Keep.refl _ w1).alloc _) (fun _ _ => .inr trivial) (.inr trivial), _, _, rfl, bytes_new w1 _ 5⟩

set_option maxRecDepth 100000 in
set_option maxHeartbeats 1000000 in
theorem ptake {w : World} {O R : Nat → Prop} {b g : Nat} {s : Sx} (n : Nat) (hn : n ≤ 255) (h : PrAt w O R b g s) :
    Calls Try.prog 107 #[.pointer (some ⟨b, 0, none⟩), .int .i64 (n : Nat)] w fun r w' => ∃ v, r = .returned v ∧ Took w' O R b g n (takeS s n).1 (takeS s n).2 v ∧ Keep (fun x => x ≠ b) w w' := by
  obtain ⟨a, cap, h0, hlc, hcm, hnc, hB, hO⟩ := h.src
  have h1 := h.c1
  have H := hide h
  by_cases hlt : s.l.length < n
  · go_enter Try.func107, Try.ntmps107
    go_wp2_with fail
    refine (prefuse 8 H.out).mono ?_
    rintro e w1 ⟨rfl, hP, hK⟩
    have h11 := hP.c1
    have hne : ¬ (((refuseS s 8).e : Int) = 0) := by unfold refuseS; split <;> simp <;> omega
    have hmk := make_n w1 n hn
    have HP := hide hP
    have HK := hide hK
    have HT : Hid (takeS s n = (refuseS s 8, List.replicate n 0)) := by
      show _ = _
      unfold takeS refuseS
      by_cases he : s.e = 0
      · rw [if_neg (by omega), if_pos hlt, if_pos he]
      · rw [if_pos he, if_neg he]
    clear hP hK
    generalize refuseS s 8 = s' at *
    go_wp2_with fail
    go_ret
    rw [HT.out]
    exact ⟨_, rfl, took_zeros HP.out, HK.out.alloc _⟩
  · by_cases he : s.e = 0
    · rw [he] at h1
      have f0 := h.fz 0
      have hT : takeS s n = (⟨s.l.drop n, 0⟩, s.l.take n) := by unfold takeS; rw [if_neg (by omega), if_neg hlt]
      rw [hT]
      by_cases hcn : cap = n
      · subst hcn
        have hnl : s.l.length = cap := by omega
        rw [hnl] at h0
        have HD : Hid (s.l.drop cap = []) := List.drop_eq_nil_of_le (by omega)
        have HT2 : Hid (s.l.take cap = s.l) := List.take_of_length_le (by omega)
        have HN := hide hnl
        have HB := hide hB
        have HO := hide hO
        have HA := hide hnc
        unfold maxLen at hcm
        clear hB hO hnc hT hlt hnl h he hlc
        go_enter Try.func107, Try.ntmps107
        go_wp2_with fail
        go_ret
        rw [HD.out, HT2.out]
        refine ⟨_, rfl, ⟨⟨⟨a, 0, ?_, by simp, by simp, ?_, .inl rfl, by simp⟩, ?_, fun o => by rw [World.frozen?_setCell]; exact H.out.fz o, H.out.ob, by simp, H.out.og⟩, a, cap, rfl, ?_⟩, (Keep.refl _ w).setCell (.inl (by simp)) _ _⟩
        · exact World.cell?_setCell_same _ _ _ h0
        · rcases HA.out with ⟨h, _⟩ | h
          · exact .inl ⟨h, rfl⟩
          · exact .inr h
        · rw [World.cell?_setCell_other _ _ _ _ (off_ne (by omega))]; exact h1
        · exact HB.out.keep (fun x hl hx => Below.heap_setCell w ⟨b, 0, none⟩ _ _ (fun e => H.out.ob.1 (by have e : x.block = b := e; rw [← e, HO.out x hl hx]; exact H.out.og)))
      · obtain ⟨ab, ao, rfl⟩ : ∃ ab ao, a = some ⟨ab, ao, none⟩ := by
          rcases hnc with ⟨_, h⟩ | h
          · omega
          · exact h
        have HB := hide hB
        have HO := hide hO
        unfold maxLen at hcm
        clear hB hO hnc hT h he
        have hle : n ≤ s.l.length := by omega
        generalize hw' : w.setCell ⟨b, 0, none⟩ (.slice (some ⟨ab, ao + n, none⟩) (s.l.length - n) (cap - n)) = w' at *
        have hBs : BytesAt w' (some ⟨ab, ao, none⟩) s.l := by
          rw [← hw']
          exact HB.out.keep (fun x hl hx => Below.heap_setCell w ⟨b, 0, none⟩ _ _ (fun e => H.out.ob.1 (by have e : x.block = b := e; rw [← e, HO.out x hl hx]; exact H.out.og)))
        have HF : Hid (Took w' O R b g n ⟨s.l.drop n, 0⟩ (s.l.take n) (.slice (some ⟨ab, ao, none⟩) n cap) ∧ Keep (fun x => x ≠ b) w w') := by
          refine ⟨⟨⟨⟨some ⟨ab, ao + n, none⟩, cap - n, ?_, by simp; omega, by unfold maxLen; omega, .inr ⟨_, _, rfl⟩, ?_, ?_⟩, ?_, fun o => by rw [← hw', World.frozen?_setCell]; exact H.out.fz o, H.out.ob, fun x hx => H.out.by8 x (List.mem_of_mem_drop hx), H.out.og⟩, _, cap, rfl, ?_⟩, ?_⟩
          · rw [← hw', List.length_drop]; exact World.cell?_setCell_same _ _ _ h0
          · exact hBs.drop n
          · intro x hl hx
            obtain rfl := Option.some.inj hx
            exact HO.out ⟨ab, ao, none⟩ (fun e => hl (by rw [e]; simp)) rfl
          · rw [← hw', World.cell?_setCell_other _ _ _ _ (off_ne (by omega))]; exact h1
          · exact hBs.take n
          · rw [← hw']; exact (Keep.refl _ w).setCell (.inl (by simp)) _ _
        clear hBs
        go_enter Try.func107, Try.ntmps107
        go_wp2_with fail
        go_ret
        exact ⟨_, rfl, HF.out⟩
    · have hne : ¬ ((s.e : Int) = 0) := by omega
      have hmk := make_n w n hn
      have HT : Hid (takeS s n = (s, List.replicate n 0)) := by
        show _ = _
        unfold takeS
        rw [if_pos he]
      clear hB hO hnc h
      go_enter Try.func107, Try.ntmps107
      go_wp2_with fail
      go_ret
      rw [HT.out]
      exact ⟨_, rfl, took_zeros H.out, (Keep.refl _ w).alloc _⟩

theorem took_head {w' : World} {O R : Nat → Prop} {b g : Nat} {s : Sx} {l : List Nat} {v : Value} (h : Took w' O R b g 1 s l v) (hl : l.length = 1) : ∃ ab ao cap, v = .slice (some ⟨ab, ao, none⟩) 1 cap ∧ w'.cell? ⟨ab, ao, none⟩ = some (.int .u8 (l.headD 0 : Nat)) := by
  obtain ⟨a, cap, rfl, hB⟩ := h.v
  obtain ⟨ab, ao, rfl, hc⟩ := hB.at (show 0 < l.length by omega)
  refine ⟨ab, ao, cap, rfl, hc.trans ?_⟩
  match l, hl with
  | [x], _ => rfl

theorem headD_lt {l : List Nat} (h : ∀ x ∈ l, x < 256) : l.headD 0 < 256 := by
  match l with
  | [] => simp
  | x :: _ => simpa using h x (by simp)

set_option maxRecDepth 100000 in
theorem pcount {w : World} {O R : Nat → Prop} {b g : Nat} {s : Sx} (x : Value) (h : PrAt w O R b g s) :
    Calls Try.prog 102 #[.pointer (some ⟨b, 0, none⟩), x] w fun r w' => r = .returned (.int .i64 ((takeS s 1).2.headD 0 : Nat)) ∧ PrAt w' O R b g (takeS s 1).1 ∧ Keep (fun x => x ≠ b) w w' ∧ (takeS s 1).2.headD 0 < 256 := by
  have hlt := headD_lt (takeS_lt s 1 h.by8)
  have hlen := takeS_length s 1
  have HC := hide (ptake 1 (by omega) h)
  clear h
  generalize takeS s 1 = tk at *
  obtain ⟨y, hy⟩ : ∃ y, tk.2.headD 0 = y := ⟨_, rfl⟩
  rw [hy] at hlt ⊢
  have HY := hide hy
  have HLn := hide hlen
  clear hy hlen
  go_enter Try.func102, Try.ntmps102
  go_wp2_with fail
  refine HC.out.mono ?_
  rintro e w1 ⟨v, rfl, hT, hK⟩
  obtain ⟨ab, ao, cap, rfl, hc⟩ := took_head hT HLn.out
  rw [HY.out] at hc
  have HT := hide hT.st
  have HK := hide hK
  clear hT hK
  go_wp2_with fail
  go_ret
  exact ⟨rfl, HT.out, HK.out, hlt⟩

/-- A field of a record was written. -/
theorem PrAt.field {w : World} {O R : Nat → Prop} {b g : Nat} {s : Sx} (h : PrAt w O R b g s) {rb o : Nat} {v : Value} (hR : R rb) (hO : ¬ O rb) : PrAt (w.setCell ⟨rb, o, none⟩ v) O R b g s := by
  have hb : b ≠ rb := fun e => h.ob.2 (by rw [e]; exact hR)
  exact h.keep (P := fun x => x ≠ rb) ((Keep.refl _ w).setCell (.inl (by simp)) _ _) (fun x hx e => hO (by rw [← e]; exact hx)) hb

/-- What turned of a record, and around it. -/
structure Step (P : Nat → Prop) (rb off n : Nat) (w w' : World) : Prop where
  keep : Keep (fun x => P x ∧ x ≠ rb) w w'
  cell : ∀ o, (o < off ∨ off + n ≤ o) → w'.cell? ⟨rb, o, none⟩ = w.cell? ⟨rb, o, none⟩
  fz : ∀ o, w'.frozen? ⟨rb, o, none⟩ = w.frozen? ⟨rb, o, none⟩
  sh : ∀ cs t fr, w.heap[rb]? = some (.cells cs t fr) → ∃ cs', w'.heap[rb]? = some (.cells cs' t fr) ∧ cs'.size = cs.size

theorem Step.refl (P : Nat → Prop) (rb off n : Nat) (w : World) : Step P rb off n w w := ⟨Keep.refl _ _, fun _ _ => rfl, fun _ => rfl, fun cs _ _ h => ⟨cs, h, rfl⟩⟩
theorem Step.trans {P : Nat → Prop} {rb off n : Nat} {u v w : World} (h : Step P rb off n u v) (k : Step P rb off n v w) : Step P rb off n u w := ⟨h.keep.trans k.keep, fun o ho => (k.cell o ho).trans (h.cell o ho), fun o => (k.fz o).trans (h.fz o), fun cs t fr h0 => by
    obtain ⟨c1, h1, e1⟩ := h.sh cs t fr h0
    obtain ⟨c2, h2, e2⟩ := k.sh c1 t fr h1
    exact ⟨c2, h2, e2.trans e1⟩⟩
theorem Step.wide {P : Nat → Prop} {rb off n off' n' : Nat} {w w' : World} (h : Step P rb off n w w') (h1 : off' ≤ off) (h2 : off + n ≤ off' + n') : Step P rb off' n' w w' := ⟨h.keep, fun o ho => h.cell o (by omega), h.fz, h.sh⟩
theorem Step.less {P P' : Nat → Prop} {rb off n : Nat} {w w' : World} (h : Step P rb off n w w') (hP : ∀ x, x < w.heap.size → P' x → P x) : Step P' rb off n w w' := ⟨h.keep.less (fun x hx k => ⟨hP x hx k.1, k.2⟩), h.cell, h.fz, h.sh⟩
theorem Step.of {P : Nat → Prop} {rb off n : Nat} {w w' : World} (h : Keep P w w') (hb : rb < w.heap.size) (hP : P rb) : Step P rb off n w w' := ⟨h.less (fun _ _ k => k.1), fun _ _ => h.cell hb hP, fun _ => h.fz hb hP, fun cs _ _ h0 => ⟨cs, (h.block rb hb hP).trans h0, rfl⟩⟩
theorem Step.put {P : Nat → Prop} {rb o : Nat} {w w' : World} (h : Keep P w w') (hb : rb < w.heap.size) (hP : P rb) (v : Value) : Step P rb o 1 w (w'.setCell ⟨rb, o, none⟩ v) :=
  ⟨(h.less (fun _ _ k => k.1)).setCell (.inl (by simp)) _ _, fun o' ho => by rw [World.cell?_setCell_other _ _ _ _ (off_ne (by omega))]; exact h.cell hb hP, fun o' => by rw [World.frozen?_setCell]; exact h.fz hb hP, fun cs t fr h0 => by
    have h1 := (h.block rb hb hP).trans h0
    refine ⟨cs.setIfInBounds o v, ?_, by simp⟩
    rw [setCell_eq_setRow w' rb o cs t fr v h1]
    exact setRow_heap w' rb cs _ t _ h1⟩

theorem shl_or (y z : Nat) (hz : z < 256) : y * 256 ||| z = y * 256 + z := by
  rw [Nat.mul_comm, show (256 : Nat) = 2 ^ 8 from rfl, Nat.two_pow_add_eq_or_of_lt (show z < 2 ^ 8 from hz)]

set_option maxRecDepth 100000 in
set_option maxHeartbeats 1000000 in
theorem pnum {w : World} {O R : Nat → Prop} {b g : Nat} {s : Sx} (rb o : Nat) (x : Value) (h : PrAt w O R b g s) (hR : R rb) (hO : ¬ O rb) (hc : w.cell? ⟨rb, o, none⟩ = some x) (hf : w.frozen? ⟨rb, o, none⟩ = false) :
    Calls Try.prog 105 #[.pointer (some ⟨b, 0, none⟩), .pointer (some ⟨rb, o, none⟩)] w fun r w' => r = .returned (.tuple #[]) ∧ PrAt w' O R b g (takeS s 8).1 ∧ w'.cell? ⟨rb, o, none⟩ = some (.int .i64 (i64of (beNum (takeS s 8).2))) ∧ Step (fun x => O x ∨ R x) rb o 1 w w' := by
  have hby := takeS_lt s 8 h.by8
  have hlen := takeS_length s 8
  have hrl := lt_of_cell hc
  have hrb : rb ≠ b := fun e => h.ob.2 (by rw [← e]; exact hR)
  have HC := hide (ptake 8 (by omega) h)
  have H := hide h
  clear h
  generalize takeS s 8 = tk at *
  obtain ⟨s', l⟩ := tk
  have HL : Hid (l.length = 8) := hlen
  have HBy : Hid (∀ x ∈ l, x < 256) := hby
  clear hlen hby
  have hbd := beNum_lt l HBy.out
  rw [HL.out] at hbd
  obtain ⟨y8, hy8⟩ : ∃ y, beNum l = y := ⟨_, rfl⟩
  rw [hy8] at hbd
  show Calls Try.prog 105 #[.pointer (some ⟨b, 0, none⟩), .pointer (some ⟨rb, o, none⟩)] w fun r w' => r = .returned (.tuple #[]) ∧ PrAt w' O R b g s' ∧ w'.cell? ⟨rb, o, none⟩ = some (Value.int .i64 (i64of (beNum l))) ∧ Step (fun x => O x ∨ R x) rb o 1 w w'
  rw [hy8]
  have H8 := hide hy8
  clear hy8
  have hi64 : IntKind.i64.wrap (y8 : Int) = i64of y8 := by
    rw [IntKind.wrap_i64]
    unfold i64of
    split <;> omega
  have HI := hide hi64
  clear hi64
  generalize i64of y8 = z8 at *
  go_enter Try.func105, Try.ntmps105
  go_wp2_with fail
  refine HC.out.mono ?_
  rintro e w1 ⟨v, rfl, hT, hK⟩
  obtain ⟨va, vc, rfl, hB⟩ := hT.v
  have hc2 := (hK.cell hrl hrb).trans hc
  have hf2 := (hK.fz hrl hrb).trans hf
  have HT : Hid (PrAt w1 O R b g s') := hT.st
  have HK := hide hK
  have HB : Hid (BytesAt w1 va l) := hB
  clear hT hK hc hf hB
  go_wp2_with fail
  go_loop [4, 6, 12] (fun v _ i => ∃ j : Nat, j ≤ 8 ∧ i = .int .i64 (j : Nat) ∧ v = .int .u64 (beNum (l.take j) : Nat)) (fun _ _ i => 8 - (intOf i).toNat)
  case atStart => exact ⟨0, by omega, rfl, rfl⟩
  case round =>
    obtain ⟨j, hj, rfl, rfl⟩ := hrel
    by_cases hlt : j < 8
    · have hjl : j < l.length := by rw [HL.out]; exact hlt
      obtain ⟨ab, ao, rfl, hcj⟩ := HB.out.at hjl
      have hz := HBy.out _ (List.getElem_mem hjl)
      have hy := beNum_lt (l.take j) (fun x hx => HBy.out x (List.mem_of_mem_take hx))
      rw [List.length_take, Nat.min_eq_left (by omega)] at hy
      have hp : 256 ^ j ≤ 256 ^ 7 := Nat.pow_le_pow_right (by omega) (by omega)
      have HS : Hid (beNum (l.take (j + 1)) = beNum (l.take j) * 256 + l[j]) := by
        show _ = _
        rw [List.take_succ_eq_append_getElem hjl, beNum_snoc]
      generalize l[j] = z at *
      generalize beNum (l.take j) = y at *
      have hy2 : y * 256 + z < 18446744073709551616 := by omega
      have hor := u64_or_nat (y * 256) z (by omega) (by omega)
      rw [shl_or y z hz] at hor
      have hor2 : bits .or .u64 ((y : Int) * 256) (z : Int) = ((y * 256 + z : Nat) : Int) := by
        rw [← hor]
        congr 1
      clear hp hy hor
      go_wp2_with fail
      go_round
      case rel => exact ⟨j + 1, hlt, by go_num, by rw [HS.out]; go_num⟩
      case measure => simp [intOf]; omega
    · obtain rfl : j = 8 := by omega
      rw [List.take_of_length_le (by rw [HL.out]; omega), H8.out]
      have hi64 := HI.out
      go_wp2_with fail
      go_end0
      exact ⟨rfl, HT.out.field hR hO, World.cell?_setCell_same _ _ _ hc2, Step.put (HK.out.less (fun z _ k e => by subst e; rcases k with k | k; exact H.out.ob.1 k; exact H.out.ob.2 k)) hrl (.inr hR) _⟩

set_option maxRecDepth 100000 in
set_option maxHeartbeats 1600000 in
theorem ptext {w : World} {O R : Nat → Prop} {b g : Nat} {s : Sx} (rb o : Nat) (x : Value) (h : PrAt w O R b g s) (hR : R rb) (hO : ¬ O rb) (hc : w.cell? ⟨rb, o, none⟩ = some x) (hf : w.frozen? ⟨rb, o, none⟩ = false) :
    Calls Try.prog 106 #[.pointer (some ⟨b, 0, none⟩), .pointer (some ⟨rb, o, none⟩)] w fun r w' => r = .returned (.tuple #[]) ∧ PrAt w' O R b g (textS .pr s ByteArray.empty).1 ∧ w'.cell? ⟨rb, o, none⟩ = some (.string (textS .pr s ByteArray.empty).2) ∧ Step (fun x => O x ∨ R x) rb o 1 w w' := by
  have hrl := lt_of_cell hc
  have hrb : rb ≠ b := fun e => h.ob.2 (by rw [← e]; exact hR)
  show Calls Try.prog 106 #[.pointer (some ⟨b, 0, none⟩), .pointer (some ⟨rb, o, none⟩)] w fun r w' => r = .returned (.tuple #[]) ∧ PrAt w' O R b g (takeS (takeS s 1).1 ((takeS s 1).2.headD 0)).1 ∧ w'.cell? ⟨rb, o, none⟩ = some (Value.string (textOf (takeS (takeS s 1).1 ((takeS s 1).2.headD 0)).2)) ∧ Step (fun x => O x ∨ R x) rb o 1 w w'
  have hC : ∀ w0, PrAt w0 O R b g s → Calls Try.prog 102 #[.pointer (some ⟨b, 0, none⟩), .int .i64 0] w0 fun r w' => r = .returned (.int .i64 ((takeS s 1).2.headD 0 : Nat)) ∧ PrAt w' O R b g (takeS s 1).1 ∧ Keep (fun x => x ≠ b) w0 w' ∧ (takeS s 1).2.headD 0 < 256 := fun w0 h0 => pcount _ h0
  generalize (takeS s 1).2.headD 0 = y at *
  generalize (takeS s 1).1 = s1 at *
  have hC2 : ∀ w0, y ≤ 255 → PrAt w0 O R b g s1 → Calls Try.prog 107 #[.pointer (some ⟨b, 0, none⟩), .int .i64 (y : Nat)] w0 fun r w' => ∃ v, r = .returned v ∧ Took w' O R b g y (takeS s1 y).1 (takeS s1 y).2 v ∧ Keep (fun x => x ≠ b) w0 w' := fun w0 hy h0 => ptake y hy h0
  have hlen := takeS_length s1 y
  generalize takeS s1 y = tk at *
  obtain ⟨s2, l⟩ := tk
  show Calls Try.prog 106 #[.pointer (some ⟨b, 0, none⟩), .pointer (some ⟨rb, o, none⟩)] w fun r w' => r = .returned (.tuple #[]) ∧ PrAt w' O R b g s2 ∧ w'.cell? ⟨rb, o, none⟩ = some (Value.string (textOf l)) ∧ Step (fun x => O x ∨ R x) rb o 1 w w'
  have HL : Hid (l.length = y) := hlen
  have HC := hide hC
  have HC2 := hide hC2
  have H := hide h
  have Hc := hide hc
  have Hf := hide hf
  clear hC hC2 hlen h
  go_enter Try.func106, Try.ntmps106
  go_wp2_with fail
  go_region_with (first
    | (go_at_call 102; refine (HC.out _ (H.out.keep (P := fun _ => True) (Keep.refl _ _).drew (fun _ _ => trivial) trivial)).mono ?_; rintro e w1 ⟨rfl, hP1, hK1, hy⟩; have HP1 := hide hP1; have HK1 := hide hK1; clear hP1 hK1)
    | (go_at_call 107; refine (HC2.out _ (by omega) HP1.out).mono ?_; rintro e w2 ⟨v, rfl, hT, hK2⟩; obtain ⟨va, vc, rfl, hB⟩ := hT.v; have hcv := text_at hB y vc HL.out; have hc2 := (hK2.cell (Nat.lt_of_lt_of_le hrl HK1.out.size) hrb).trans ((HK1.out.cell (by exact hrl) hrb).trans Hc.out); have hf2 := (hK2.fz (Nat.lt_of_lt_of_le hrl HK1.out.size) hrb).trans ((HK1.out.fz (by exact hrl) hrb).trans Hf.out); have HT := hide hT.st; have HK2 := hide hK2; clear hT hK2 hB))
  all_goals
    go_end0
    exact ⟨rfl, HT.out.field hR hO, World.cell?_setCell_same _ _ _ hc2, Step.put ((((Keep.refl _ w).drew.trans HK1.out).trans HK2.out).less (fun z _ k e => by subst e; rcases k with k | k; exact H.out.ob.1 k; exact H.out.ob.2 k)) hrl (.inr hR) _⟩
end Go.Proofs.Ytkbboingeacgjaa
