/-
  Answers of the frame: written, walked.
-/
import Derived.Test.YtkbboingeacgjaaFEnc
import Derived.Test.YtkbboingeacgjaaQRS
import Derived.Test.YtkbboingeacgjaaFFrame
namespace Go.Proofs.Ytkbboingeacgjaa
open Go.RowKit

/-- It can be written. -/
def Aw.Ok (a : Aw) : Prop := 0 ≤ a.er ∧ a.er ≤ 255 ∧ a.nm.size ≤ 255

end Go.Proofs.Ytkbboingeacgjaa

/-
  Answers of the frame: parsed, walked.
-/
namespace Go.Proofs.Ytkbboingeacgjaa
open Go.RowKit

def Aw.zero : Aw := ⟨0, 0, 0, 0, ByteArray.empty, 0, 0, 0, 0, 0, 0, 0, 0⟩

/-- A parser, and an answer that is made in a block of the call's own; q2: where it is handed out. -/
structure As (w0 w : World) (b g : Nat) (s : Sx) (q2 q : Nat) (cs : List Value) : Prop where
  st : FpAt w b g s
  fl : w.rangeAt q 0 cs
  th : w.there q 0 cs.length
  t2 : w.there q2 0 13
  kp : Keep (fun x => x ≠ b) w0 w
  qq : w0.heap.size ≤ q ∧ w0.heap.size ≤ q2 ∧ q ≠ q2
  bg : b < w0.heap.size ∧ g < w0.heap.size

theorem As.call {w0 w w' : World} {b g : Nat} {s s' : Sx} {q2 q : Nat} {cs : List Value} (h : As w0 w b g s q2 q cs) (hK : Keep (fun x => x ≠ b) w w') (hS : FpAt w' b g s') : As w0 w' b g s' q2 q cs :=
  ⟨hS, fun j v hj => (World.cell?_of_block (a := ⟨q, 0 + j, none⟩) (hK.block q (lt_of_cell (h.fl j v hj)) (by have := h.qq.1; have := h.bg.1; omega))).trans (h.fl j v hj), there_keep hK (by have := h.qq.1; have := h.bg.1; omega) h.th, there_keep hK (by have := h.qq.2.1; have := h.bg.1; omega) h.t2, h.kp.trans hK, h.qq, h.bg⟩

theorem As.puts {w0 w : World} {b g : Nat} {s : Sx} {q2 q : Nat} {cs : List Value} (h : As w0 w b g s q2 q cs) (o : Nat) (vs : List Value) (hl : o + vs.length ≤ cs.length) : As w0 (w.setCells q o vs) b g s q2 q (cs.take o ++ vs ++ cs.drop (o + vs.length)) := by
  have hn : (cs.take o ++ vs ++ cs.drop (o + vs.length)).length = cs.length := by
    rw [List.length_append, List.length_append, List.length_take, List.length_drop]
    omega
  have h1 := h.qq
  have h2 := h.bg
  exact ⟨h.st.keep (P := fun x => x ≠ q) ((Keep.refl _ w).setCells (.inl (fun h => h rfl)) o vs) (by omega) (by omega), range_puts h.fl h.th hl, by rw [hn]; exact World.there_setCells h.th _ _ _, there_blk h.t2 (heap_setCellsN q q2 (by omega) vs o w), h.kp.setCells (.inr h1.1) o vs, h.qq, h.bg⟩

end Go.Proofs.Ytkbboingeacgjaa
