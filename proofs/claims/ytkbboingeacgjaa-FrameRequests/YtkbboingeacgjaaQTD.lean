/-
  The reference's reader: answers.
-/
import Derived.Test.YtkbboingeacgjaaQTC
import Derived.Test.YtkbboingeacgjaaFAns
namespace Go.Proofs.Ytkbboingeacgjaa
open Go.RowKit

theorem numS_fault {s : Sx} (h : s.e ≠ 0) (x : Int) : (numS .pr s x).1 = s := by show (takeS s 8).1 = s; rw [takeS_fault h]

theorem numsS_fault : ∀ (l : List Int) {s : Sx} (_ : s.e ≠ 0), (numsS .pr s l).1 = s
  | [], _, _ => rfl
  | x :: l, s, h => by
    show (numsS .pr (numS .pr s x).1 l).1 = s
    rw [numS_fault h]
    exact numsS_fault l h

theorem tiS_text {t : Sx} {nm : ByteArray} {l : List Int} (h : (tiS .pr t nm l).1.e = 0) : (textS .pr t nm).1.e = 0 := by
  refine Classical.byContradiction fun k => ?_
  have : (tiS .pr t nm l).1 = (textS .pr t nm).1 := numsS_fault l k
  rw [this] at h
  exact k h

end Go.Proofs.Ytkbboingeacgjaa

/-
  ParseAnswer of the frame and of the reference, EncodeAnswer of the reference, walked.
-/
namespace Go.Proofs.Ytkbboingeacgjaa
open Go.RowKit

theorem results_two {fn : Func} {i j T n : Nat} (hT : Sz T n) (h : fn.results = #[.cell i T, .tmp j]) {tmps : Array Value} {w : World} {g : Nat} {cs : List Value} {u : Value} (hl : cs.length = n) (h4 : tmps.getD i undef = .pointer (some ⟨g, 0, none⟩)) (h5 : tmps.getD j undef = u) (hr : w.rangeAt g 0 cs) :
    (results fn tmps).run Try.prog w = .ok (.tuple #[.agg cs.toArray, u]) w := by
  have h4' : tmps[i]?.getD undef = .pointer (some ⟨g, 0, none⟩) := by simpa using h4
  have h5' : tmps[j]?.getD undef = u := by simpa using h5
  obtain ⟨h0, d, k1, k2⟩ := hT
  have hv : (loadVar T ⟨g, 0, none⟩).run Try.prog w = .ok (.agg cs.toArray) w := run_loadVar_mid w g 0 _ cs d hr k1 k2 (by rw [h0, hl])
  simp [results, h, h4', h5', asAddr, hv]

theorem fp_new {w : World} (hw : 0 < w.heap.size) (a : Option Addr) (c : Nat) (l : List Nat) (hB : BytesAt w a l) (hb : ∀ x ∈ l, x < 256) (hlc : l.length ≤ c) (hcm : c ≤ maxLen) (ha : a = none ∧ c = 0 ∨ ∃ ab ao, a = some ⟨ab, ao, none⟩) :
    ∃ g, g < w.heap.size ∧ FpAt (w.alloc (.cells #[.int .i64 0, .slice a l.length c] 78)) w.heap.size g ⟨l, 0⟩ := by
  have hT : Turn [] w (w.alloc (.cells #[.int .i64 0, .slice a l.length c] 78)) := (Turn.refl [] w).alloc _
  obtain ⟨g, hg, hg2⟩ : ∃ g, g < w.heap.size ∧ ∀ x, l ≠ [] → a = some x → x.block = g := by
    by_cases hl : l = []
    · exact ⟨0, hw, fun x h => absurd hl h⟩
    · obtain ⟨ab, ao, rfl, hc⟩ := hB.at (List.length_pos_iff.2 hl)
      exact ⟨ab, lt_of_cell hc, fun x _ e => by rw [← Option.some.inj e]⟩
  exact ⟨g, hg, ⟨a, c, World.cell?_alloc_at _ _ _ _ rfl, hlc, hcm, ha, hB.turn hT (by simp), hg2⟩, World.cell?_alloc_at _ _ _ _ rfl, fun o => fz_new w _ _ o, by omega, hb⟩

/-- A row of bytes that may be parsed. -/
structure Byr (w : World) (a : Option Addr) (c : Nat) (l : List Nat) : Prop where
  bt : BytesAt w a l
  by8 : ∀ x ∈ l, x < 256
  lc : l.length ≤ c
  cm : c ≤ maxLen
  ad : a = none ∧ c = 0 ∨ ∃ ab ao, a = some ⟨ab, ao, none⟩

theorem Byr.turn {w w' : World} {a : Option Addr} {c : Nat} {l : List Nat} (h : Byr w a c l) (hT : Turn [] w w') : Byr w' a c l := ⟨h.bt.turn hT (by simp), h.by8, h.lc, h.cm, h.ad⟩

theorem Byr.of {w : World} {base : Nat} {v : Value} {l : List Nat} {n : Nat} (h : w.ownsRow base 5 1 v n (l.map byteCell)) (hb : ∀ x ∈ l, x < 256) : ∃ a c, v = .slice a l.length c ∧ Byr w a c l := by
  have hn : n = l.length := by have := h.1; simpa using this.symm
  by_cases hl : l = []
  · subst hl
    obtain ⟨_, ⟨rfl, h0⟩ | ⟨g, cap, cur, rfl, _, _, hnc, hm, _⟩⟩ := h
    · exact ⟨none, 0, rfl, .inl rfl, hb, Nat.le_refl _, by decide, .inl ⟨rfl, rfl⟩⟩
    · exact ⟨_, cap, by rw [hn], .inl rfl, hb, Nat.zero_le _, hm, .inr ⟨_, _, rfl⟩⟩
  · have hp : 0 < n := by rw [hn]; exact List.length_pos_iff.2 hl
    obtain ⟨g, cap, rfl, _, _, _, hB, _⟩ := own_bytes h hp
    obtain ⟨_, h0 | ⟨g', c', cur, e', _, _, hnc, hm, _⟩⟩ := h
    · omega
    · injection e' with e1 e2 e3
      subst e3
      exact ⟨_, cap, rfl, hB, hb, by omega, hm, .inr ⟨_, _, rfl⟩⟩

end Go.Proofs.Ytkbboingeacgjaa
