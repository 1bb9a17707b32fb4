/-
  Frame of the program and of the reference; FrameFrames, walked.
-/
import Derived.Test.YtkbboingeacgjaaFLaw1
import Derived.Laws.OwnMore
namespace Go.Proofs.Ytkbboingeacgjaa
open Go.RowKit

/-- What Frame answers. -/
structure FrmP (w w' : World) (l : List Nat) (v : Value) (e : Int) : Prop where
  old : Turn [] w w'
  no : l.length = 0 ∨ 512 < l.length → v = .slice none 0 0 ∧ e = 5
  yes : ¬ (l.length = 0 ∨ 512 < l.length) → w'.ownsRow w.heap.size 5 1 v (l.length + 2) (([l.length / 256, l.length % 256] ++ l).map byteCell) ∧ e = 0

set_option maxRecDepth 100000 in
set_option maxHeartbeats 1600000 in
theorem frame_any (w : World) (a : Option Addr) (c : Nat) (l : List Nat) (hl : l.length ≤ 9223372036854775807) (hB : BytesAt w a l) (hn : a = none → c = 0) :
    Calls Try.prog 20 #[.slice a l.length c] w fun r w' => ∃ v e, r = .returned (.tuple #[v, .int .i64 e]) ∧ FrmP w w' l v e := by
  by_cases h0 : l.length = 0
  · have hz := hide h0
    rw [h0]
    go_enter Try.func20, Try.ntmps20
    go_wp2_with fail
    go_ret2
    exact ⟨_, _, rfl, Turn.refl [] w, fun _ => ⟨rfl, rfl⟩, fun k => absurd (.inl hz.out) k⟩
  by_cases h1 : 512 < l.length
  · have hz := hide h1
    have hd : decide ((512 : Int) < (l.length : Int)) = true := by simp; omega
    have he : (((l.length : Nat) : Int) == 0) = false := by rw [beq_eq_false_iff_ne]; omega
    have HL := hide h0
    generalize hm : l.length = m at *
    have HM := hide hm
    clear hm
    go_enter Try.func20, Try.ntmps20
    go_wp2_with fail
    go_ret2
    exact ⟨_, _, rfl, Turn.refl [] w, fun _ => ⟨rfl, rfl⟩, fun k => absurd (.inr (by have := HM.out; have := hz.out; omega)) k⟩
  · have hlt : l.length ≤ 512 := by omega
    have hpos : 0 < l.length := by omega
    obtain ⟨y, hy⟩ : ∃ y : Nat, l.length / 256 = y := ⟨_, rfl⟩
    obtain ⟨z, hz⟩ : ∃ z : Nat, l.length % 256 = z := ⟨_, rfl⟩
    have hy2 : ((l.length : Nat) : Int) / 256 = (y : Int) := by omega
    have hz2 : ((l.length : Nat) : Int) % 256 = (z : Int) := by omega
    have hy3 : (y : Int) % 256 = (y : Int) := by omega
    have hd : decide ((512 : Int) < (l.length : Int)) = false := by simp; omega
    have he : (((l.length : Nat) : Int) == 0) = false := by rw [beq_eq_false_iff_ne]; omega
    have HO : Hid ((w.alloc (.cells #[.int .u8 (y : Nat), .int .u8 (z : Nat)] 5)).ownsRow w.heap.size 5 1 (.slice (some ⟨w.heap.size, 0, none⟩) 2 2) 2 ([y, z].map byteCell)) := World.ownsRow_lit w #[.int .u8 (y : Nat), .int .u8 (z : Nat)] 2 (Nat.le_refl _) (by decide) rfl
    have HB : Hid (BytesAt (w.alloc (.cells #[.int .u8 (y : Nat), .int .u8 (z : Nat)] 5)) a l) := hB.turn (S := []) ((Turn.refl [] w).alloc _) (by simp)
    have HY := hide hy
    have HZ := hide hz
    have HN := hide hn
    have HFin : Hid (∀ v' w', w'.ownsRow w.heap.size 5 1 v' (2 + l.length) (([y, z] ++ l).map byteCell) → (w.alloc (.cells #[.int .u8 (y : Nat), .int .u8 (z : Nat)] 5)).grownBy w' (some w.heap.size) → FrmP w w' l v' 0) := fun v' w' h1 h2 => ⟨((Turn.refl [] w).alloc _).grown h2 (fun k e => .inr (by have := Option.some.inj e; omega)), fun k => absurd k (by omega), fun _ => ⟨by rw [hy, hz, Nat.add_comm]; exact h1, rfl⟩⟩
    have HLn : Hid (l.length = l.length) := rfl
    clear hB hy hz hn h1
    generalize hm : l.length = m at *
    have HM := hide hm
    clear hm
    go_enter Try.func20, Try.ntmps20
    go_wp2_with (at_builtin; refine append_bytes rfl _ _ rfl w.heap.size (.slice (some ⟨w.heap.size, 0, none⟩) 2 2) 2 [y, z] rfl HO.out a m c l rfl HM.out HN.out HB.out (by omega) (by simp) ?_; intro v' w' h1 h2 h3; have HP := hide (HFin.out v' w' h1 h2); clear h1 h2 h3)
    go_ret2
    exact ⟨_, _, rfl, HP.out⟩

set_option maxRecDepth 100000 in
set_option maxHeartbeats 1600000 in
theorem rframe_any (w : World) (a : Option Addr) (c : Nat) (l : List Nat) (hl : l.length ≤ 9223372036854775807) (hB : BytesAt w a l) (hn : a = none → c = 0) :
    Calls Try.prog 21 #[.slice a l.length c] w fun r w' => ∃ v e, r = .returned (.tuple #[v, .int .i64 e]) ∧ FrmP w w' l v e := by
  by_cases h0 : l.length = 0
  · have hz := hide h0
    rw [h0]
    go_enter Try.func21, Try.ntmps21
    go_wp2_with fail
    go_ret2
    exact ⟨_, _, rfl, Turn.refl [] w, fun _ => ⟨rfl, rfl⟩, fun k => absurd (.inl hz.out) k⟩
  by_cases h1 : 512 < l.length
  · have hz := hide h1
    have hd : decide ((512 : Int) < (l.length : Int)) = true := by simp; omega
    have he : (((l.length : Nat) : Int) == 0) = false := by rw [beq_eq_false_iff_ne]; omega
    have HL := hide h0
    generalize hm : l.length = m at *
    have HM := hide hm
    clear hm
    go_enter Try.func21, Try.ntmps21
    go_wp2_with fail
    go_ret2
    exact ⟨_, _, rfl, Turn.refl [] w, fun _ => ⟨rfl, rfl⟩, fun k => absurd (.inr (by have := HM.out; have := hz.out; omega)) k⟩
  · have hlt : l.length ≤ 512 := by omega
    have hpos : 0 < l.length := by omega
    obtain ⟨y, hy⟩ : ∃ y : Nat, l.length / 256 = y := ⟨_, rfl⟩
    obtain ⟨z, hz⟩ : ∃ z : Nat, l.length % 256 = z := ⟨_, rfl⟩
    have hy2 : ((l.length : Nat) : Int) / 256 = (y : Int) := by omega
    have hz2 : ((l.length : Nat) : Int) % 256 = (z : Int) := by omega
    have hy3 : (y : Int) % 256 = (y : Int) := by omega
    have hd : decide ((512 : Int) < (l.length : Int)) = false := by simp; omega
    have he : (((l.length : Nat) : Int) == 0) = false := by rw [beq_eq_false_iff_ne]; omega
    have HO : Hid ((w.alloc (.cells #[.int .u8 (y : Nat), .int .u8 (z : Nat)] 5)).ownsRow w.heap.size 5 1 (.slice (some ⟨w.heap.size, 0, none⟩) 2 2) 2 ([y, z].map byteCell)) := World.ownsRow_lit w #[.int .u8 (y : Nat), .int .u8 (z : Nat)] 2 (Nat.le_refl _) (by decide) rfl
    have HB : Hid (BytesAt (w.alloc (.cells #[.int .u8 (y : Nat), .int .u8 (z : Nat)] 5)) a l) := hB.turn (S := []) ((Turn.refl [] w).alloc _) (by simp)
    have HY := hide hy
    have HZ := hide hz
    have HN := hide hn
    have HFin : Hid (∀ v' w', w'.ownsRow w.heap.size 5 1 v' (2 + l.length) (([y, z] ++ l).map byteCell) → (w.alloc (.cells #[.int .u8 (y : Nat), .int .u8 (z : Nat)] 5)).grownBy w' (some w.heap.size) → FrmP w w' l v' 0) := fun v' w' h1 h2 => ⟨((Turn.refl [] w).alloc _).grown h2 (fun k e => .inr (by have := Option.some.inj e; omega)), fun k => absurd k (by omega), fun _ => ⟨by rw [hy, hz, Nat.add_comm]; exact h1, rfl⟩⟩
    have HLn : Hid (l.length = l.length) := rfl
    clear hB hy hz hn h1
    generalize hm : l.length = m at *
    have HM := hide hm
    clear hm
    go_enter Try.func21, Try.ntmps21
    go_wp2_with (at_builtin; refine append_bytes rfl _ _ rfl w.heap.size (.slice (some ⟨w.heap.size, 0, none⟩) 2 2) 2 [y, z] rfl HO.out a m c l rfl HM.out HN.out HB.out (by omega) (by simp) ?_; intro v' w' h1 h2 h3; have HP := hide (HFin.out v' w' h1 h2); clear h1 h2 h3)
    go_ret2
    exact ⟨_, _, rfl, HP.out⟩

theorem Turn.drewNr {S : List Nat} {u w : World} (h : Turn S u w) (n : Nat) : Turn S u (w.drewN n) := ⟨h.os, h.tape, h.output, h.size, h.block⟩
theorem rep_bytes (m y : Nat) : bytesOf m (fun i => if i < m then y else 0) = List.replicate m y := by
  apply List.ext_getElem (by simp [bytesOf])
  intro i h1 h2
  simp [bytesOf] at h1 ⊢
  omega
theorem zs_row (w : World) (m : Nat) : RowAt (w.alloc (.cells (zs m) 5)) w.heap.size m (fun i => if i < 0 then 1 else 0) := by
  refine ⟨fun i hi => ?_, fun o => fz_new w _ _ o, by simp⟩
  have h := (bytes_new w (List.replicate m 0) 5).cell0 (i := i) (by simpa using hi)
  exact (show (w.alloc (.cells (zs m) 5)).cell? ⟨w.heap.size, i, none⟩ = _ from h).trans (by simp)

set_option maxRecDepth 100000 in
set_option maxHeartbeats 3200000 in
theorem frames_any (n : Int) (y : Nat) (w : World) (_hy : y < 256) : Calls Try.prog 7 #[.int .i64 n, .int .u8 (y : Nat)] w fun e w' => e = .returned (.bool true) ∧ Turn [] w w' := by
  obtain ⟨m, hm, hm2⟩ : ∃ m : Nat, n % 600 = (m : Int) ∧ m < 600 := ⟨(n % 600).toNat, by omega, by omega⟩
  have HC1 := hide (fun w => within_any n 600 w (by omega) (by omega))
  rw [hm] at HC1
  clear hm
  go_enter Try.func7, Try.ntmps7
  go_wp2_with fail
  refine (known_any w).mono ?_
  rintro e w1 ⟨rfl, hT⟩
  have HT1 := hide hT
  clear hT
  go_wp2_with fail
  refine (HC1.out w1).mono ?_
  rintro e w' ⟨rfl, rfl⟩
  have hmk := fmake_n w' m (by omega)
  have HR0 := hide (zs_row w' m)
  have HT2 : Hid (Turn [] w (w'.alloc (.cells (zs m) 5))) := HT1.out.alloc _
  have HG : Hid (w.heap.size ≤ w'.heap.size) := HT1.out.size
  clear HC1 HT1
  generalize hg : w'.heap.size = g at *
  go_wp2_with fail
  clear hg hmk
  generalize w'.alloc (.cells (zs m) 5) = w2 at *
  go_loopw [6] (fun i wr => ∃ j : Nat, j ≤ m ∧ i = .int .i64 (j : Nat) ∧ RowAt wr g m (fun i => if i < j then y else 0) ∧ Turn [] w wr) (fun i _ => m - (intOf i).toNat)
  case atStart => exact ⟨0, Nat.zero_le _, rfl, HR0.out.congr (fun i _ => by simp), HT2.out⟩
  case round =>
    obtain ⟨j, hj, rfl, hR, hT⟩ := hrel
    by_cases hlt : j < m
    · have hc := hR.cell j hlt
      have hf := hR.fz j
      have HR := hide (hR.set j y hlt)
      have HT : Hid (Turn [] w (wr.setCell ⟨g, j, none⟩ (.int .u8 (y : Nat)))) := hT.setNew HG.out j _
      clear hR hT
      go_wp2_with fail
      go_roundw
      case rel =>
        refine ⟨j + 1, hlt, by go_num, HR.out.congr (fun i hi => ?_), HT.out⟩
        unfold setB
        by_cases e : i = j
        · subst e; simp
        · rw [if_neg e]
          show (if i < j then y else 0) = if i < j + 1 then y else 0
          by_cases h : i < j
          · rw [if_pos h, if_pos (by omega)]
          · rw [if_neg h, if_neg (by omega)]
      case measure => simp [intOf]; omega
    · obtain rfl : j = m := by omega
      have hB := hR.bytes0
      rw [rep_bytes] at hB
      have hLl : (List.replicate j y).length = j := by simp
      have hC := frame_any wr (some ⟨g, 0, none⟩) j (List.replicate j y) (by rw [hLl]; omega) hB (fun e => by cases e)
      rw [hLl] at hC
      have HC := hide hC
      have HB := hide hB
      have HT := hide hT
      clear hC hB hR hT
      go_wp2_with fail
      refine HC.out.mono ?_
      rintro e w3 ⟨v, e, rfl, hP⟩
      have HT3 := hide (HT.out.trans hP.old)
      by_cases hbad : j = 0 ∨ 512 < j
      · obtain ⟨rfl, rfl⟩ := hP.no (by rw [hLl]; exact hbad)
        clear hP
        rcases hbad with rfl | hbad
        · go_wp2_with fail
          go_ret
          exact ⟨rfl, HT3.out⟩
        · have hd : decide ((512 : Int) < (j : Int)) = true := by simp; omega
          have he : (((j : Nat) : Int) == 0) = false := by rw [beq_eq_false_iff_ne]; omega
          go_wp2_with fail
          go_ret
          exact ⟨rfl, HT3.out⟩
      · obtain ⟨ho, rfl⟩ := hP.yes (by rw [hLl]; exact hbad)
        rw [hLl] at ho
        have hd : decide ((512 : Int) < (j : Int)) = false := by simp; omega
        have he : (((j : Nat) : Int) == 0) = false := by rw [beq_eq_false_iff_ne]; omega
        obtain ⟨g2, cap, hv, hxx, hg2, hxg, hB2, hxf⟩ := own_bytes ho (by omega)
        clear hxx hxg hxf hg2
        have hl2 : ([j / 256, j % 256] ++ List.replicate j y).length = j + 2 := by simp
        rw [hl2] at hv
        subst hv
        have hcap : j + 2 ≤ cap := by
          obtain ⟨_, h0 | ⟨g', c', cur, e', _, _, hnc, _⟩⟩ := ho
          · omega
          · injection e' with _ _ e3
            rw [e3]
            exact hnc
        have c0 : w3.cell? ⟨g2, 0, none⟩ = some (.int .u8 ((j / 256 : Nat) : Nat)) := by
          have := hB2.cell0 (i := 0) (by rw [hl2]; omega)
          simpa using this
        have c1 : w3.cell? ⟨g2, 1, none⟩ = some (.int .u8 ((j % 256 : Nat) : Nat)) := by
          have := hB2.cell0 (i := 1) (by rw [hl2]; omega)
          simpa using this
        obtain ⟨S, hS⟩ : ∃ S, textOf (List.replicate j y) = S := ⟨_, rfl⟩
        have hB3 : ∀ W : World, W.heap = w3.heap → BytesAt W (some ⟨g2, 2, none⟩) (List.replicate j y) := by
          have h3 : BytesAt w3 (some ⟨g2, 2, none⟩) (List.replicate j y) := by
            have := hB2.drop 2
            simpa using this
          exact fun W hW => h3.keep (fun _ _ _ => by rw [hW])
        have ht1 := text_at (hB3 w3 rfl) j (cap - 2) hLl
        have ht1n := fun n => text_at (hB3 (w3.drewN n) rfl) j (cap - 2) hLl
        have hB4 : ∀ W : World, W.heap = w3.heap → BytesAt W (some ⟨g, 0, none⟩) (List.replicate j y) := fun W hW => (HB.out.turn (S := []) hP.old (by simp)).keep (fun _ _ _ => by rw [hW])
        have ht2 := text_at (hB4 w3 rfl) j j hLl
        have ht2n := fun n => text_at (hB4 (w3.drewN n) rfl) j j hLl
        rw [hS] at ht1 ht2
        simp only [hS] at ht1n ht2n
        clear hS hB2 hB3 hB4 hP ho hl2
        obtain ⟨a0, ha0⟩ : ∃ a : Nat, j / 256 = a := ⟨_, rfl⟩
        obtain ⟨a1, ha1⟩ : ∃ a : Nat, j % 256 = a := ⟨_, rfl⟩
        rw [ha0] at c0
        rw [ha1] at c1
        have hsum : ((a0 : Int) * 256 + (a1 : Int)) = (j : Int) := by omega
        have hb0 : a0 < 256 := by omega
        have hb1 : a1 < 256 := by omega
        have hc2 : ¬ cap = 2 := by omega
        have hw1 : IntKind.i64.wrap ((j : Int) + 2) = (j : Int) + 2 := by rw [IntKind.wrap_i64]; omega
        have hw2 : IntKind.i64.wrap (a0 : Int) = (a0 : Int) := by rw [IntKind.wrap_i64]; omega
        have hw3 : IntKind.i64.wrap (a1 : Int) = (a1 : Int) := by rw [IntKind.wrap_i64]; omega
        have hw4 : IntKind.i64.wrap ((a0 : Int) * 256) = (a0 : Int) * 256 := by rw [IntKind.wrap_i64]; omega
        have hw5 : IntKind.i64.wrap ((a0 : Int) * 256 + (a1 : Int)) = (j : Int) := by rw [hsum, IntKind.wrap_i64]; omega
        have i0 : (0 : Int) < (j : Int) + 2 := by omega
        have i1 : (1 : Int) < (j : Int) + 2 := by omega
        have i2 : (2 : Int) ≤ (j : Int) + 2 := by omega
        have i3 : (j : Int) + 2 ≤ (cap : Int) := by omega
        have i4 : (2 : Int) ≤ (cap : Int) := by omega
        have hw6 : IntKind.i64.wrap (j : Int) = (j : Int) := by rw [IntKind.wrap_i64]; omega
        have hwe : (((j + 2 : Nat) : Int) == (j : Int) + 2) = true := by simp
        clear ha0 ha1
        go_wp2_with fail
        go_quiet (fail)
        go_wp2_with fail
        go_ret
        exact ⟨rfl, HT3.out.drewNr _⟩

end Go.Proofs.Ytkbboingeacgjaa
