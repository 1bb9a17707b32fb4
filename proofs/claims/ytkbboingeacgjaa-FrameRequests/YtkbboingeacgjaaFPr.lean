/-
  The frame's parser: its fault and what is left of its bytes, in memory; its methods, walked.
-/
import Derived.Test.YtkbboingeacgjaaQPp
import Derived.Test.YtkbboingeacgjaaQSz
import Derived.Deep.RegionWith
import Derived.BigRegion
namespace Go.Proofs.Ytkbboingeacgjaa
open Go.RowKit

/-- A parser in memory: g is the block that its bytes lie in. -/
structure FpAt (w : World) (b g : Nat) (s : Sx) : Prop where
  src : ∃ a cap, w.cell? ⟨b, 1, none⟩ = some (.slice a s.l.length cap) ∧ s.l.length ≤ cap ∧ cap ≤ maxLen ∧ (a = none ∧ cap = 0 ∨ ∃ ab ao, a = some ⟨ab, ao, none⟩) ∧ BytesAt w a s.l ∧ ∀ x, s.l ≠ [] → a = some x → x.block = g
  c0 : w.cell? ⟨b, 0, none⟩ = some (.int .i64 (s.e : Nat))
  fz : ∀ o, w.frozen? ⟨b, o, none⟩ = false
  gb : g ≠ b
  by8 : ∀ x ∈ s.l, x < 256

theorem FpAt.keep {w w' : World} {b g : Nat} {s : Sx} (h : FpAt w b g s) {P : Nat → Prop} (hK : Keep P w w') (hg : P g) (hb : P b) : FpAt w' b g s := by
  have hbl := lt_of_cell h.c0
  obtain ⟨a, cap, h0, h1, h2, h3, h4, h5⟩ := h.src
  exact ⟨⟨a, cap, (hK.cell hbl hb).trans h0, h1, h2, h3, hK.bytes h4 (fun x hl hx => by rw [h5 x hl hx]; exact hg), h5⟩, (hK.cell hbl hb).trans h.c0, fun o => (hK.fz hbl hb).trans (h.fz o), h.gb, h.by8⟩

theorem FpAt.fault {w : World} {b g : Nat} {s : Sx} (h : FpAt w b g s) (e : Nat) : FpAt (w.setCell ⟨b, 0, none⟩ (.int .i64 (e : Nat))) b g ⟨s.l, e⟩ := by
  obtain ⟨a, cap, h0, h1, h2, h3, h4, h5⟩ := h.src
  refine ⟨⟨a, cap, ?_, h1, h2, h3, ?_, h5⟩, World.cell?_setCell_same _ _ _ h.c0, fun o => by rw [World.frozen?_setCell]; exact h.fz o, h.gb, h.by8⟩
  · rw [World.cell?_setCell_other _ _ _ _ (off_ne (by omega))]; exact h0
  · exact h4.keep (fun x hl hx => Below.heap_setCell w ⟨b, 0, none⟩ _ _ (fun e => h.gb (by have e : x.block = b := e; rw [← e, h5 x hl hx])))

set_option maxRecDepth 100000 in
theorem fprefuse {w : World} {b g : Nat} {s : Sx} (e : Nat) (h : FpAt w b g s) :
    Calls Try.prog 41 #[.pointer (some ⟨b, 0, none⟩), .int .i64 (e : Nat)] w fun r w' => r = .returned (.tuple #[]) ∧ FpAt w' b g (refuseS s e) ∧ Keep (fun x => x ≠ b) w w' := by
  have h1 := h.c0
  have f1 := h.fz 0
  have H := hide h
  clear h
  by_cases he : s.e = 0
  · rw [he] at h1
    have HR : Hid (refuseS s e = ⟨s.l, e⟩) := by show _ = _; unfold refuseS; rw [if_pos he]
    clear he
    go_enter Try.func41, Try.ntmps41
    go_wp2_with fail
    go_end0
    exact ⟨rfl, by rw [HR.out]; exact H.out.fault e, (Keep.refl _ w).setCell (.inl (by simp)) _ _⟩
  · have HR : Hid (refuseS s e = s) := by show _ = _; unfold refuseS; rw [if_neg he]
    have hne : ¬ ((s.e : Int) = 0) := by omega
    go_enter Try.func41, Try.ntmps41
    go_wp2_with fail
    go_end0
    exact ⟨rfl, by rw [HR.out]; exact H.out, Keep.refl _ w⟩

set_option maxRecDepth 100000 in
theorem fpend {w : World} {b g : Nat} {s : Sx} (h : FpAt w b g s) :
    Calls Try.prog 30 #[.pointer (some ⟨b, 0, none⟩)] w fun r w' => r = .returned (.int .i64 ((if s.l = [] then s else refuseS s 9).e : Nat)) ∧ Keep (fun x => x ≠ b) w w' := by
  obtain ⟨a, cap, h0, _⟩ := h.src
  have h1 := h.c0
  have H := hide h
  clear h
  by_cases hl : s.l = []
  · have hlen : s.l.length = 0 := by rw [hl]; rfl
    rw [hlen] at h0
    rw [if_pos hl]
    clear hl hlen
    go_enter Try.func30, Try.ntmps30
    go_wp2_with fail
    go_ret
    exact ⟨rfl, Keep.refl _ w⟩
  · have hlen : 0 < s.l.length := List.length_pos_iff.2 hl
    rw [if_neg hl]
    go_enter Try.func30, Try.ntmps30
    go_wp2_with fail
    refine (fprefuse 9 H.out).mono ?_
    rintro e w1 ⟨rfl, hP, hK⟩
    have h11 := hP.c0
    have HK := hide hK
    clear hP hK
    go_wp2_with fail
    go_ret
    exact ⟨rfl, HK.out⟩

/-- What 'take' hands out. -/
structure FTook (w' : World) (b g n : Nat) (s : Sx) (l : List Nat) (v : Value) : Prop where
  st : FpAt w' b g s
  v : ∃ a cap, v = .slice a n cap ∧ BytesAt w' a l ∧ n ≤ cap ∧ cap ≤ maxLen ∧ (a = none ∧ cap = 0 ∨ ∃ ab ao, a = some ⟨ab, ao, none⟩)

theorem fmake_n (w : World) (n : Nat) (hn : n ≤ 1000) : (Instr.makeSlice 26 (.int .i64 (n : Nat)) (.int .i64 (n : Nat))).run Try.prog w = .ok (.slice (some ⟨w.heap.size, 0, none⟩) n n) (w.alloc (.cells (zs n) 5)) := by
  obtain ⟨i0, hi, hz0, hz1, hz2⟩ := info_parts info5
  have h := run_make (P := Try.prog) w 26 5 i0 (.int .u8 0) Try.underlying26 hi hz0 .i64 .i64 (n : Int) (n : Int) (by omega) (by omega) (by rw [hz2]; omega) (by omega)
  have e : madeCells (Value.int .u8 0).cells ((n : Int).toNat * i0.size) = zs n := by
    apply Array.toList_inj.1
    rw [show (Value.int .u8 0).cells = #[Value.int .u8 0] from rfl, toList_madeCells_one, hz1]
    rw [Nat.mul_one, Int.toNat_natCast]
    show List.replicate n (Value.int .u8 0) = (List.replicate n 0).map byteCell
    rw [List.map_replicate]
    rfl
  rw [h, e]
  rfl

theorem ftook_zeros {w1 : World} {b g n : Nat} {s : Sx} (hn : n ≤ 1000) (h : FpAt w1 b g s) : FTook (w1.alloc (.cells (zs n) 5)) b g n s (List.replicate n 0) (.slice (some ⟨w1.heap.size, 0, none⟩) n n) :=
  ⟨h.keep (P := fun _ => True) ((Keep.refl _ w1).alloc _) trivial trivial, _, _, rfl, bytes_new w1 _ 5, Nat.le_refl _, by unfold maxLen; omega, .inr ⟨_, _, rfl⟩⟩

set_option maxRecDepth 100000 in
set_option maxHeartbeats 1000000 in
theorem fptake {w : World} {b g : Nat} {s : Sx} (n : Nat) (hn : n ≤ 1000) (h : FpAt w b g s) :
    Calls Try.prog 53 #[.pointer (some ⟨b, 0, none⟩), .int .i64 (n : Nat)] w fun r w' => ∃ v, r = .returned v ∧ FTook w' b g n (takeS s n).1 (takeS s n).2 v ∧ Keep (fun x => x ≠ b) w w' := by
  obtain ⟨a, cap, h0, hlc, hcm, hnc, hB, hO⟩ := h.src
  have h1 := h.c0
  have H := hide h
  by_cases hlt : s.l.length < n
  · go_enter Try.func53, Try.ntmps53
    go_wp2_with fail
    refine (fprefuse 8 H.out).mono ?_
    rintro e w1 ⟨rfl, hP, hK⟩
    have h11 := hP.c0
    have hne : ¬ (((refuseS s 8).e : Int) = 0) := by unfold refuseS; split <;> simp <;> omega
    have hmk := fmake_n w1 n hn
    have HP := hide hP
    have HK := hide hK
    have HT : Hid (takeS s n = (refuseS s 8, List.replicate n 0)) := by
      show _ = _
      unfold takeS refuseS
      by_cases he : s.e = 0
      · rw [if_neg (by omega), if_pos hlt, if_pos he]
      · rw [if_pos he, if_neg he]
    clear hP hK
    generalize refuseS s 8 = s' at *
    go_wp2_with fail
    go_ret
    rw [HT.out]
    exact ⟨_, rfl, ftook_zeros hn HP.out, HK.out.alloc _⟩
  · by_cases he : s.e = 0
    · rw [he] at h1
      have f0 := h.fz 1
      have hT : takeS s n = (⟨s.l.drop n, 0⟩, s.l.take n) := by unfold takeS; rw [if_neg (by omega), if_neg hlt]
      rw [hT]
      by_cases hcn : cap = n
      · subst hcn
        have hnl : s.l.length = cap := by omega
        rw [hnl] at h0
        have HD : Hid (s.l.drop cap = []) := List.drop_eq_nil_of_le (by omega)
        have HT2 : Hid (s.l.take cap = s.l) := List.take_of_length_le (by omega)
        have HN := hide hnl
        have HB := hide hB
        have HO := hide hO
        have HA := hide hnc
        unfold maxLen at hcm
        clear hB hO hnc hT hlt hnl h he hlc
        go_enter Try.func53, Try.ntmps53
        go_wp2_with fail
        go_ret
        rw [HD.out, HT2.out]
        refine ⟨_, rfl, ⟨⟨⟨a, 0, ?_, by simp, by simp, ?_, .inl rfl, by simp⟩, ?_, fun o => by rw [World.frozen?_setCell]; exact H.out.fz o, H.out.gb, by simp⟩, a, cap, rfl, ?_, by omega, by unfold maxLen; omega, HA.out⟩, (Keep.refl _ w).setCell (.inl (by simp)) _ _⟩
        · exact World.cell?_setCell_same _ _ _ h0
        · rcases HA.out with ⟨h, _⟩ | h
          · exact .inl ⟨h, rfl⟩
          · exact .inr h
        · rw [World.cell?_setCell_other _ _ _ _ (off_ne (by omega))]; exact h1
        · exact HB.out.keep (fun x hl hx => Below.heap_setCell w ⟨b, 1, none⟩ _ _ (fun e => H.out.gb (by have e : x.block = b := e; rw [← e, HO.out x hl hx])))
      · obtain ⟨ab, ao, rfl⟩ : ∃ ab ao, a = some ⟨ab, ao, none⟩ := by
          rcases hnc with ⟨_, h⟩ | h
          · omega
          · exact h
        have HB := hide hB
        have HO := hide hO
        unfold maxLen at hcm
        clear hB hO hnc hT h he
        have hle : n ≤ s.l.length := by omega
        generalize hw' : w.setCell ⟨b, 1, none⟩ (.slice (some ⟨ab, ao + n, none⟩) (s.l.length - n) (cap - n)) = w' at *
        have hBs : BytesAt w' (some ⟨ab, ao, none⟩) s.l := by
          rw [← hw']
          exact HB.out.keep (fun x hl hx => Below.heap_setCell w ⟨b, 1, none⟩ _ _ (fun e => H.out.gb (by have e : x.block = b := e; rw [← e, HO.out x hl hx])))
        have HF : Hid (FTook w' b g n ⟨s.l.drop n, 0⟩ (s.l.take n) (.slice (some ⟨ab, ao, none⟩) n cap) ∧ Keep (fun x => x ≠ b) w w') := by
          refine ⟨⟨⟨⟨some ⟨ab, ao + n, none⟩, cap - n, ?_, by simp; omega, by unfold maxLen; omega, .inr ⟨_, _, rfl⟩, ?_, ?_⟩, ?_, fun o => by rw [← hw', World.frozen?_setCell]; exact H.out.fz o, H.out.gb, fun x hx => H.out.by8 x (List.mem_of_mem_drop hx)⟩, _, cap, rfl, ?_, by omega, by unfold maxLen; omega, .inr ⟨_, _, rfl⟩⟩, ?_⟩
          · rw [← hw', List.length_drop]; exact World.cell?_setCell_same _ _ _ h0
          · exact hBs.drop n
          · intro x hl hx
            obtain rfl := Option.some.inj hx
            exact HO.out ⟨ab, ao, none⟩ (fun e => hl (by rw [e]; simp)) rfl
          · rw [← hw', World.cell?_setCell_other _ _ _ _ (off_ne (by omega))]; exact h1
          · exact hBs.take n
          · rw [← hw']; exact (Keep.refl _ w).setCell (.inl (by simp)) _ _
        clear hBs
        go_enter Try.func53, Try.ntmps53
        go_wp2_with fail
        go_ret
        exact ⟨_, rfl, HF.out⟩
    · have hne : ¬ ((s.e : Int) = 0) := by omega
      have hmk := fmake_n w n hn
      have HT : Hid (takeS s n = (s, List.replicate n 0)) := by
        show _ = _
        unfold takeS
        rw [if_pos he]
      clear hB hO hnc h
      go_enter Try.func53, Try.ntmps53
      go_wp2_with fail
      go_ret
      rw [HT.out]
      exact ⟨_, rfl, ftook_zeros hn H.out, (Keep.refl _ w).alloc _⟩

theorem ftook_head {w' : World} {b g : Nat} {s : Sx} {l : List Nat} {v : Value} (h : FTook w' b g 1 s l v) (hl : l.length = 1) : ∃ ab ao cap, v = .slice (some ⟨ab, ao, none⟩) 1 cap ∧ w'.cell? ⟨ab, ao, none⟩ = some (.int .u8 (l.headD 0 : Nat)) := by
  obtain ⟨a, cap, rfl, hB, _⟩ := h.v
  obtain ⟨ab, ao, rfl, hc⟩ := hB.at (show 0 < l.length by omega)
  refine ⟨ab, ao, cap, rfl, hc.trans ?_⟩
  match l, hl with
  | [x], _ => rfl

set_option maxRecDepth 100000 in
theorem fpoctet {w : World} {b g : Nat} {s : Sx} (h : FpAt w b g s) :
    Calls Try.prog 45 #[.pointer (some ⟨b, 0, none⟩)] w fun r w' => r = .returned (.int .i64 ((takeS s 1).2.headD 0 : Nat)) ∧ FpAt w' b g (takeS s 1).1 ∧ Keep (fun x => x ≠ b) w w' ∧ (takeS s 1).2.headD 0 < 256 := by
  have hby := headD_lt (takeS_lt s 1 h.by8)
  have hlen := takeS_length s 1
  have HC := hide (fptake 1 (by omega) h)
  clear h
  generalize takeS s 1 = tk at *
  obtain ⟨s', l⟩ := tk
  have HL : Hid (l.length = 1) := hlen
  have hby : l.headD 0 < 256 := hby
  show Calls Try.prog 45 #[.pointer (some ⟨b, 0, none⟩)] w fun r w' => r = .returned (.int .i64 (l.headD 0 : Nat)) ∧ FpAt w' b g s' ∧ Keep (fun x => x ≠ b) w w' ∧ l.headD 0 < 256
  obtain ⟨z, hz⟩ : ∃ z, l.headD 0 = z := ⟨_, rfl⟩
  rw [hz] at hby ⊢
  have HZ := hide hz
  clear hlen hz
  go_enter Try.func45, Try.ntmps45
  go_wp2_with fail
  refine HC.out.mono ?_
  rintro e w1 ⟨v, rfl, hT, hK⟩
  obtain ⟨ab, ao, cap, rfl, hc⟩ := ftook_head hT HL.out
  have HT : Hid (FpAt w1 b g s') := hT.st
  have HK := hide hK
  rw [HZ.out] at hc
  clear hT hK
  go_wp2_with fail
  go_ret
  exact ⟨rfl, HT.out, HK.out, hby⟩

set_option maxRecDepth 100000 in
theorem fpkind {w : World} {b g : Nat} {s : Sx} (x : Int) (h : FpAt w b g s) :
    Calls Try.prog 86 #[.pointer (some ⟨b, 0, none⟩), .int .i64 x] w fun r w' => r = .returned (.int .i64 ((takeS s 1).2.headD 0 : Nat)) ∧ FpAt w' b g (takeS s 1).1 ∧ Keep (fun x => x ≠ b) w w' ∧ (takeS s 1).2.headD 0 < 256 := by
  have HC := hide (fpoctet h)
  clear h
  generalize (takeS s 1).2.headD 0 = y at *
  generalize (takeS s 1).1 = s1 at *
  go_enter Try.func86, Try.ntmps86
  go_wp2_with fail
  refine HC.out.mono ?_
  rintro e w1 ⟨rfl, hT, hK, hy⟩
  have HT := hide hT
  have HK := hide hK
  clear hT hK
  go_wp2_with fail
  go_ret
  exact ⟨rfl, HT.out, HK.out, hy⟩

set_option maxRecDepth 100000 in
set_option maxHeartbeats 1000000 in
theorem fpnum {w : World} {b g : Nat} {s : Sx} (x : Int) (h : FpAt w b g s) :
    Calls Try.prog 46 #[.pointer (some ⟨b, 0, none⟩), .int .i64 x] w fun r w' => r = .returned (.int .i64 (numS .pr s 0).2) ∧ FpAt w' b g (numS .pr s 0).1 ∧ Keep (fun x => x ≠ b) w w' := by
  show Calls Try.prog 46 #[.pointer (some ⟨b, 0, none⟩), .int .i64 x] w fun r w' => r = .returned (.int .i64 (i64of (beNum (takeS s 8).2))) ∧ FpAt w' b g (takeS s 8).1 ∧ Keep (fun x => x ≠ b) w w'
  have hby := takeS_lt s 8 h.by8
  have hlen := takeS_length s 8
  have HC := hide (fptake 8 (by omega) h)
  clear h
  generalize takeS s 8 = tk at *
  obtain ⟨s', l⟩ := tk
  have HL : Hid (l.length = 8) := hlen
  have HBy : Hid (∀ x ∈ l, x < 256) := hby
  clear hlen hby
  have hbd := beNum_lt l HBy.out
  rw [HL.out] at hbd
  obtain ⟨y8, hy8⟩ : ∃ y, beNum l = y := ⟨_, rfl⟩
  rw [hy8] at hbd
  show Calls Try.prog 46 #[.pointer (some ⟨b, 0, none⟩), .int .i64 x] w fun r w' => r = .returned (.int .i64 (i64of (beNum l))) ∧ FpAt w' b g s' ∧ Keep (fun x => x ≠ b) w w'
  rw [hy8]
  have H8 := hide hy8
  clear hy8
  have hi64 : IntKind.i64.wrap (y8 : Int) = i64of y8 := by
    rw [IntKind.wrap_i64]
    unfold i64of
    split <;> omega
  have HI := hide hi64
  clear hi64
  generalize i64of y8 = z8 at *
  go_enter Try.func46, Try.ntmps46
  go_wp2_with fail
  refine HC.out.mono ?_
  rintro e w1 ⟨v, rfl, hT, hK⟩
  obtain ⟨va, vc, rfl, hB, _⟩ := hT.v
  have HT : Hid (FpAt w1 b g s') := hT.st
  have HK := hide hK
  have HB : Hid (BytesAt w1 va l) := hB
  clear hT hK hB
  go_wp2_with fail
  go_loop [5, 7, 13] (fun v _ i => ∃ j : Nat, j ≤ 8 ∧ i = .int .i64 (j : Nat) ∧ v = .int .u64 (beNum (l.take j) : Nat)) (fun _ _ i => 8 - (intOf i).toNat)
  case atStart => exact ⟨0, by omega, rfl, rfl⟩
  case round =>
    obtain ⟨j, hj, rfl, rfl⟩ := hrel
    by_cases hlt : j < 8
    · have hjl : j < l.length := by rw [HL.out]; exact hlt
      obtain ⟨ab, ao, rfl, hcj⟩ := HB.out.at hjl
      have hz := HBy.out _ (List.getElem_mem hjl)
      have hy := beNum_lt (l.take j) (fun x hx => HBy.out x (List.mem_of_mem_take hx))
      rw [List.length_take, Nat.min_eq_left (by omega)] at hy
      have hp : 256 ^ j ≤ 256 ^ 7 := Nat.pow_le_pow_right (by omega) (by omega)
      have HS : Hid (beNum (l.take (j + 1)) = beNum (l.take j) * 256 + l[j]) := by
        show _ = _
        rw [List.take_succ_eq_append_getElem hjl, beNum_snoc]
      generalize l[j] = z at *
      generalize beNum (l.take j) = y at *
      have hy2 : y * 256 + z < 18446744073709551616 := by omega
      have hor := u64_or_nat (y * 256) z (by omega) (by omega)
      rw [shl_or y z hz] at hor
      have hor2 : bits .or .u64 ((y : Int) * 256) (z : Int) = ((y * 256 + z : Nat) : Int) := by
        rw [← hor]
        congr 1
      clear hp hy hor
      go_wp2_with fail
      go_round
      case rel => exact ⟨j + 1, hlt, by go_num, by rw [HS.out]; go_num⟩
      case measure => simp [intOf]; omega
    · obtain rfl : j = 8 := by omega
      rw [List.take_of_length_le (by rw [HL.out]; omega), H8.out]
      have hi64 := HI.out
      go_wp2_with fail
      go_ret
      exact ⟨rfl, HT.out, HK.out⟩

set_option maxRecDepth 100000 in
set_option maxHeartbeats 1600000 in
theorem fptext {w : World} {b g : Nat} {s : Sx} (x : ByteArray) (h : FpAt w b g s) :
    Calls Try.prog 88 #[.pointer (some ⟨b, 0, none⟩), .string x] w fun r w' => r = .returned (.string (textS .pr s ByteArray.empty).2) ∧ FpAt w' b g (textS .pr s ByteArray.empty).1 ∧ Keep (fun x => x ≠ b) w w' := by
  show Calls Try.prog 88 #[.pointer (some ⟨b, 0, none⟩), .string x] w fun r w' => r = .returned (.string (textOf (takeS (takeS s 1).1 ((takeS s 1).2.headD 0)).2)) ∧ FpAt w' b g (takeS (takeS s 1).1 ((takeS s 1).2.headD 0)).1 ∧ Keep (fun x => x ≠ b) w w'
  have hC : ∀ w0, FpAt w0 b g s → Calls Try.prog 45 #[.pointer (some ⟨b, 0, none⟩)] w0 fun r w' => r = .returned (.int .i64 ((takeS s 1).2.headD 0 : Nat)) ∧ FpAt w' b g (takeS s 1).1 ∧ Keep (fun x => x ≠ b) w0 w' ∧ (takeS s 1).2.headD 0 < 256 := fun w0 h0 => fpoctet h0
  generalize (takeS s 1).2.headD 0 = y at *
  generalize (takeS s 1).1 = s1 at *
  have hC2 : ∀ w0, y < 256 → FpAt w0 b g s1 → Calls Try.prog 53 #[.pointer (some ⟨b, 0, none⟩), .int .i64 (y : Nat)] w0 fun r w' => ∃ v, r = .returned v ∧ FTook w' b g y (takeS s1 y).1 (takeS s1 y).2 v ∧ Keep (fun x => x ≠ b) w0 w' := fun w0 hy h0 => fptake y (by omega) h0
  have hlen := takeS_length s1 y
  generalize takeS s1 y = tk at *
  obtain ⟨s2, l⟩ := tk
  show Calls Try.prog 88 #[.pointer (some ⟨b, 0, none⟩), .string x] w fun r w' => r = .returned (.string (textOf l)) ∧ FpAt w' b g s2 ∧ Keep (fun x => x ≠ b) w w'
  have HL : Hid (l.length = y) := hlen
  have HC := hide hC
  have HC2 := hide hC2
  have H := hide h
  clear hC hC2 hlen h
  go_enter Try.func88, Try.ntmps88
  go_wp2_with fail
  go_region_with (first
    | (go_at_call 45; refine (HC.out _ (H.out.keep (P := fun _ => True) (Keep.refl _ _).drew trivial trivial)).mono ?_; rintro e w1 ⟨rfl, hP1, hK1, hy⟩; have HP1 := hide hP1; have HK1 := hide hK1; clear hP1 hK1)
    | (go_at_call 53; refine (HC2.out _ (by omega) HP1.out).mono ?_; rintro e w2 ⟨v, rfl, hT, hK2⟩; obtain ⟨va, vc, rfl, hB, _⟩ := hT.v; have hcv := text_at hB y vc HL.out; have HT : Hid (FpAt w2 b g s2) := hT.st; have HK2 := hide hK2; clear hT hK2 hB))
  all_goals
    go_wp2_with fail
    go_ret
    exact ⟨rfl, HT.out, ((Keep.refl _ w).drew.trans HK1.out).trans HK2.out⟩

/-- What 'record' takes: m bytes, and as many as the first one says. -/
def recS (s : Sx) (m : Nat) : Sx × List Nat := takeS s (m + s.l.headD 0)

set_option maxRecDepth 100000 in
set_option maxHeartbeats 1000000 in
theorem fprecord {w : World} {b g : Nat} {s : Sx} (m : Nat) (hm : m ≤ 100) (ba : Option Addr) (bc : Nat) (h : FpAt w b g s) :
    Calls Try.prog 55 #[.pointer (some ⟨b, 0, none⟩), .slice ba m bc] w fun r w' => ∃ v, r = .returned v ∧ FTook w' b g (m + s.l.headD 0) (recS s m).1 (recS s m).2 v ∧ Keep (fun x => x ≠ b) w w' := by
  have hy := headD_lt h.by8
  obtain ⟨a, cap, h0, hlc, _, _, hB, _⟩ := h.src
  have HC := hide (fptake (m + s.l.headD 0) (by omega) h)
  unfold recS
  clear h
  by_cases hl : s.l = []
  · have hlen : s.l.length = 0 := by rw [hl]; rfl
    have hz : s.l.headD 0 = 0 := by rw [hl]; rfl
    rw [hlen] at h0
    rw [hz, Nat.add_zero] at HC ⊢
    generalize takeS s m = tk at *
    clear hl hlen hz hy hlc hB
    go_enter Try.func55, Try.ntmps55
    go_wp2_with fail
    refine HC.out.mono ?_
    rintro e w1 ⟨v, rfl, hT, hK⟩
    obtain ⟨va, vc, rfl, _⟩ := hT.v
    have HT := hide hT
    have HK := hide hK
    clear hT hK
    go_wp2_with fail
    go_ret
    exact ⟨_, rfl, HT.out, HK.out⟩
  · have hpos : 0 < s.l.length := List.length_pos_iff.2 hl
    obtain ⟨ab, ao, rfl, hc⟩ := hB.at hpos
    rw [Nat.add_zero] at hc
    have hz : s.l.headD 0 = s.l[0] := by
      match s.l, hpos with
      | x :: _, _ => rfl
    rw [hz] at HC hy ⊢
    generalize s.l[0] = y at *
    generalize takeS s (m + y) = tk at *
    have hcast : ((m + y : Nat) : Int) = (m : Int) + (y : Int) := by omega
    rw [hcast] at HC
    clear hl hz hcast hB
    have hcap : 0 < cap := by omega
    go_enter Try.func55, Try.ntmps55
    go_wp2_with fail
    refine HC.out.mono ?_
    rintro e w1 ⟨v, rfl, hT, hK⟩
    obtain ⟨va, vc, rfl, _⟩ := hT.v
    have HT := hide hT
    have HK := hide hK
    clear hT hK
    go_wp2_with fail
    go_ret
    exact ⟨_, rfl, HT.out, HK.out⟩

end Go.Proofs.Ytkbboingeacgjaa
