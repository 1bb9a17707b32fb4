/-
  Frame of the program and of the reference; FrameFrames, walked.
-/
import Derived.Test.YtmmbckchaklhaaaFLaw1
import Derived.Laws.OwnMore
namespace Go.Proofs.Ytmmbckchaklhaaa
open Go.RowKit

/-- What Frame answers. -/
structure FrmP (w w' : World) (l : List Nat) (v : Value) (e : Int) : Prop where
  old : Turn [] w w'
  no : l.length = 0 ∨ 512 < l.length → v = .slice none 0 0 ∧ e = 5
  yes : ¬ (l.length = 0 ∨ 512 < l.length) → w'.ownsRow w.heap.size 5 1 v (l.length + 2) (([l.length / 256, l.length % 256] ++ l).map byteCell) ∧ e = 0

set_option maxRecDepth 100000 in
set_option maxHeartbeats 1600000 in
theorem rframe_any (w : World) (a : Option Addr) (c : Nat) (l : List Nat) (hl : l.length ≤ 9223372036854775807) (hB : BytesAt w a l) (hn : a = none → c = 0) :
    Calls Try.prog 17 #[.slice a l.length c] w fun r w' => ∃ v e, r = .returned (.tuple #[v, .int .i64 e]) ∧ FrmP w w' l v e := by
  by_cases h0 : l.length = 0
  · have hz := hide h0
    rw [h0]
    go_enter Try.func17, Try.ntmps17
    go_wp2_with fail
    go_ret2
    exact ⟨_, _, rfl, Turn.refl [] w, fun _ => ⟨rfl, rfl⟩, fun k => absurd (.inl hz.out) k⟩
  by_cases h1 : 512 < l.length
  · have hz := hide h1
    have hd : decide ((512 : Int) < (l.length : Int)) = true := by simp; omega
    have he : (((l.length : Nat) : Int) == 0) = false := by rw [beq_eq_false_iff_ne]; omega
    have HL := hide h0
    generalize hm : l.length = m at *
    have HM := hide hm
    clear hm
    go_enter Try.func17, Try.ntmps17
    go_wp2_with fail
    go_ret2
    exact ⟨_, _, rfl, Turn.refl [] w, fun _ => ⟨rfl, rfl⟩, fun k => absurd (.inr (by have := HM.out; have := hz.out; omega)) k⟩
  · have hlt : l.length ≤ 512 := by omega
    have hpos : 0 < l.length := by omega
    obtain ⟨y, hy⟩ : ∃ y : Nat, l.length / 256 = y := ⟨_, rfl⟩
    obtain ⟨z, hz⟩ : ∃ z : Nat, l.length % 256 = z := ⟨_, rfl⟩
    have hy2 : ((l.length : Nat) : Int) / 256 = (y : Int) := by omega
    have hz2 : ((l.length : Nat) : Int) % 256 = (z : Int) := by omega
    have hy3 : (y : Int) % 256 = (y : Int) := by omega
    have hd : decide ((512 : Int) < (l.length : Int)) = false := by simp; omega
    have he : (((l.length : Nat) : Int) == 0) = false := by rw [beq_eq_false_iff_ne]; omega
    have HO : Hid ((w.alloc (.cells #[.int .u8 (y : Nat), .int .u8 (z : Nat)] 5)).ownsRow w.heap.size 5 1 (.slice (some ⟨w.heap.size, 0, none⟩) 2 2) 2 ([y, z].map byteCell)) := World.ownsRow_lit w #[.int .u8 (y : Nat), .int .u8 (z : Nat)] 2 (Nat.le_refl _) (by decide) rfl
    have HB : Hid (BytesAt (w.alloc (.cells #[.int .u8 (y : Nat), .int .u8 (z : Nat)] 5)) a l) := hB.turn (S := []) ((Turn.refl [] w).alloc _) (by simp)
    have HY := hide hy
    have HZ := hide hz
    have HN := hide hn
    have HFin : Hid (∀ v' w', w'.ownsRow w.heap.size 5 1 v' (2 + l.length) (([y, z] ++ l).map byteCell) → (w.alloc (.cells #[.int .u8 (y : Nat), .int .u8 (z : Nat)] 5)).grownBy w' (some w.heap.size) → FrmP w w' l v' 0) := fun v' w' h1 h2 => ⟨((Turn.refl [] w).alloc _).grown h2 (fun k e => .inr (by have := Option.some.inj e; omega)), fun k => absurd k (by omega), fun _ => ⟨by rw [hy, hz, Nat.add_comm]; exact h1, rfl⟩⟩
    have HLn : Hid (l.length = l.length) := rfl
    clear hB hy hz hn h1
    generalize hm : l.length = m at *
    have HM := hide hm
    clear hm
    go_enter Try.func17, Try.ntmps17
    go_wp2_with (at_builtin; refine append_bytes rfl _ _ rfl w.heap.size (.slice (some ⟨w.heap.size, 0, none⟩) 2 2) 2 [y, z] rfl HO.out a m c l rfl HM.out HN.out HB.out (by omega) (by simp) ?_; intro v' w' h1 h2 h3; have HP := hide (HFin.out v' w' h1 h2); clear h1 h2 h3)
    go_ret2
    exact ⟨_, _, rfl, HP.out⟩

theorem Turn.drewNr {S : List Nat} {u w : World} (h : Turn S u w) (n : Nat) : Turn S u (w.drewN n) := ⟨h.os, h.tape, h.output, h.size, h.block⟩

theorem rep_bytes (m y : Nat) : bytesOf m (fun i => if i < m then y else 0) = List.replicate m y := by
  apply List.ext_getElem (by simp [bytesOf])
  intro i h1 h2
  simp [bytesOf] at h1 ⊢
  omega

theorem zs_row (w : World) (m : Nat) : RowAt (w.alloc (.cells (zs m) 5)) w.heap.size m (fun i => if i < 0 then 1 else 0) := by
  refine ⟨fun i hi => ?_, fun o => fz_new w _ _ o, by simp⟩
  have h := (bytes_new w (List.replicate m 0) 5).cell0 (i := i) (by simpa using hi)
  exact (show (w.alloc (.cells (zs m) 5)).cell? ⟨w.heap.size, i, none⟩ = _ from h).trans (by simp)

end Go.Proofs.Ytmmbckchaklhaaa
