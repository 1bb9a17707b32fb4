/-
  Steps of a region that draws: a call by its contract, an append of bytes.
-/
import Derived.Test.YtmmbckchaklhaaaQRef2
import Derived.Test.YtmmbckchaklhaaaFPr2
import Derived.Deep.RegionLaw
import Derived.Deep.RegionHeldLaw
import Derived.Deep.CutRange
namespace Go.Proofs.Ytmmbckchaklhaaa
open Go.RowKit

theorem enter32 (x y : Value) (w : World) : (callFunc 23 #[x, y]).run Try.prog w = .ok (.enter 23 #[x, y]) w := by kernel_rfl

theorem enter31 (x y : Value) (w : World) : (callFunc 22 #[x, y]).run Try.prog w = .ok (.enter 22 #[x, y]) w := by kernel_rfl

theorem enter19 (x y : Value) (w : World) : (callFunc 24 #[x, y]).run Try.prog w = .ok (.enter 24 #[x, y]) w := by kernel_rfl

theorem step_gr_append {ops : Array Oper} {o : Oper} {a : Act} {K : Act → World → Prop} {Q : Exit → Act → World → Prop} {E : Prop} {w w1 : World} {l : List Nat} {v : Value} (hgd : o.guard = none) (s x : Operand)
    (ho : o.op = .call { callee := .builtin .append, args := #[s, x], argTypes := #[26, 26] }) (hown : w.ownsRow 0 5 1 v l.length (l.map byteCell)) (hs : a.eval s = v)
    (sb n c : Nat) (m : List Nat) (hx : a.eval x = .slice (some ⟨sb, 0, none⟩) n c) (hm : m.length = n) (hn : 0 < n) (hB : BytesAt w1 (some ⟨sb, 0, none⟩) m) (hl : l.length + n ≤ 2000000000) (h1 : Keep (fun _ => True) w w1)
    (hK : ∀ g cap w2, Gr w w2 v (.slice (some ⟨g, 0, none⟩) (l.length + n) cap) (l ++ m) → K (a.put o.dst (.slice (some ⟨g, 0, none⟩) (l.length + n) cap)) w2) : if Region.wanted o (yielded ops a.tmps) = true then Oper.wp Try.prog o a w1 K Q else E := by
  have hw : Region.wanted o (yielded ops a.tmps) = true := by simp [Region.wanted, hgd]
  rw [if_pos hw]
  exact gr_append_wp s x ho hown hs sb n c m hx hm hn hB hl h1 hK

/-- An answer's bytes. -/
def ansBy (n : Nat) (l : List Int) (nm : ByteArray) (xs : List Int) : List Nat := [n] ++ l.flatMap be8 ++ (if xs.headD 0 = 0 then [0] else [1] ++ tiB nm xs)

/-- Another block is as it was. -/
theorem Gr.other {w w' : World} {v v' : Value} {l : List Nat} (h : Gr w w' v v' l) {x : Nat} (hx : x < w.heap.size) (hv : v.ownBlock ≠ some x) : w'.heap[x]? = w.heap[x]? := h.grown.block x hx (fun e => hv e.symm)

theorem Gr.apart {w w' : World} {v v' : Value} {l : List Nat} (h : Gr w w' v v' l) {x : Nat} (hx : x < w.heap.size) (hv : v.ownBlock ≠ some x) : v'.ownBlock ≠ some x := fun e => by
  rcases h.loc x e with h1 | h1
  · exact hv h1
  · omega