/-
  The frame's writer: plans and statements, walked.
-/
import Derived.Test.YtmmbckchaklhaaaFWr
import Derived.Test.YtmmbckchaklhaaaQSz
import Derived.Test.YtmmbckchaklhaaaQPp
import Derived.Deep.RegionHeldLaw
namespace Go.Proofs.Ytmmbckchaklhaaa
open Go.RowKit

theorem FwAt.keep {w w' : World} {O : Nat → Prop} {b : Nat} {l : List Nat} {e : Nat} (h : FwAt w O b l e) (hK : Keep (fun _ => True) w w') : FwAt w' O b l e := by
  obtain ⟨⟨v, hv, hown, hno⟩, hc0, hfz, hob, hlt⟩ := h
  have hbl := lt_of_cell hc0
  exact ⟨⟨v, (hK.cell hbl trivial).trans hv, own_kept hown (hK.less (fun _ _ _ => trivial)), hno⟩, (hK.cell hbl trivial).trans hc0, fun o => (hK.fz hbl trivial).trans (hfz o), hob, fun x hx => Nat.lt_of_lt_of_le (hlt x hx) hK.size⟩

/-- New blocks become other people's. -/
theorem FwAt.more {w w' : World} {O O' : Nat → Prop} {b : Nat} {l : List Nat} {e : Nat} (h : FwAt w O b l e) (hK : Keep (fun _ => True) w w') (hO : ∀ x, O' x → O x ∨ w.heap.size ≤ x ∧ x < w'.heap.size) : FwAt w' O' b l e := by
  have h2 := h.keep hK
  obtain ⟨⟨v, hv, hown, hno⟩, hc0, hfz, hob, hlt'⟩ := h2
  obtain ⟨⟨v0, hv0, hown0, hno0⟩, hc00, _, _, hlt⟩ := h
  have hbl := lt_of_cell hc00
  obtain rfl : v0 = v := Option.some.inj (((hK.cell hbl trivial).trans hv0).symm.trans hv)
  refine ⟨⟨v0, hv, hown, fun g k => ⟨fun hg => ?_, (hno g k).2⟩⟩, hc0, hfz, fun hb => ?_, fun x hx => ?_⟩
  · rcases hO g hg with h | h
    · exact (hno g k).1 h
    · have := (hown0.lt g k).2; omega
  · rcases hO b hb with h | h
    · exact hob h
    · omega
  · rcases hO x hx with h | h
    · exact hlt' x h
    · exact h.2

theorem FwAt.less {w : World} {O O' : Nat → Prop} {b : Nat} {l : List Nat} {e : Nat} (h : FwAt w O b l e) (hO : ∀ x, O' x → O x) : FwAt w O' b l e := by
  obtain ⟨⟨v, hv, hown, hno⟩, hc0, hfz, hob, hlt⟩ := h
  exact ⟨⟨v, hv, hown, fun g k => ⟨fun hg => (hno g k).1 (hO g hg), (hno g k).2⟩⟩, hc0, hfz, fun hb => hob (hO b hb), fun x hx => hlt x (hO x hx)⟩

/-- A call of one argument, as a step of a region that draws. -/
theorem step_call1 {ops : Array Oper} {o : Oper} {a : Act} {K : Act → World → Prop} {Q : Exit → Act → World → Prop} {E : Prop} {w : World} (hgd : o.guard = none) (f : FuncId) (x : Operand) (ts : Array TypeId)
    (ho : o.op = .call { callee := .value (.func f), args := #[x], argTypes := ts }) (vx : Value) (hx : a.eval x = vx) (hE : (callFunc f #[vx]).run Try.prog w = .ok (.enter f #[vx]) w) {post : Value → World → Prop} (hC : Calls Try.prog f #[vx] w fun e w' => ∃ v, e = .returned v ∧ post v w')
    (hK : ∀ v w', post v w' → K (a.put o.dst v) w') : if Region.wanted o (yielded ops a.tmps) = true then Oper.wp Try.prog o a w K Q else E := by
  have hw : Region.wanted o (yielded ops a.tmps) = true := by simp [Region.wanted, hgd]
  rw [if_pos hw]
  have hf : a.eval (.func f) = .func (.func f) #[] #[] := rfl
  have e : (execOp a.eval o).run Try.prog w = .ok (.enter f #[vx]) w := by
    simp [execOp, ho, resolve, invoke, hx, hf, Deferred.ofValue, hE]
  unfold Oper.wp
  rw [e, Oper.upon_enter]
  refine hC.mono ?_
  rintro e w' ⟨v, rfl, h⟩
  exact hK v w' h

theorem enterP (x : Value) (w : World) : (callFunc 90 #[x]).run Try.prog w = .ok (.enter 90 #[x]) w := by kernel_rfl

/-- What a writer makes of a plan. -/
def tiW (l : List Nat) (e : Nat) (nm : ByteArray) (xs : List Int) : Sx := if nm.size ≤ 255 then ⟨l ++ tiB nm xs, e⟩ else ⟨l, orE e 5⟩

def planC (nm : ByteArray) (x1 x2 x3 x4 x5 x6 x7 x8 x9 : Int) : List Value := [.string nm, .int .i64 x1, .int .i64 x2, .int .i64 x3, .int .i64 x4, .int .i64 x5, .int .i64 x6, .int .i64 x7, .int .i64 x8, .int .i64 x9]

theorem planC_one (nm : ByteArray) (x1 x2 x3 x4 x5 x6 x7 x8 x9 : Int) : ∀ v ∈ planC nm x1 x2 x3 x4 x5 x6 x7 x8 x9, v.oneCell' = true := by
  intro v hv
  simp only [planC, List.mem_cons, List.not_mem_nil, or_false] at hv
  rcases hv with rfl | rfl | rfl | rfl | rfl | rfl | rfl | rfl | rfl | rfl <;> rfl

theorem out_rowB {w w' : World} {v : Value} {l : List Nat} (h : Out w w' v l) (hl : 0 < l.length) : ∃ g cap, v = .slice (some ⟨g, 0, none⟩) l.length cap ∧ BytesAt w' (some ⟨g, 0, none⟩) l ∧ l.length ≤ cap := by
  obtain ⟨hl0, h0 | ⟨g, cap, cur, rfl, hb, hg, hnc, hm, hsz, hcur⟩⟩ := h.own
  · omega
  · obtain ⟨g', cap', e, _, _, _, h2, _⟩ := own_bytes h.own hl
    injection e with e1 e2 e3
    obtain rfl : g = g' := congrArg Addr.block (Option.some.inj e1)
    exact ⟨g, cap, rfl, h2, hnc⟩

theorem Turn.undrew {S : List Nat} {w w' : World} (h : Turn S w.drew w') : Turn S w w' := ⟨h.os, h.tape, h.output, h.size, h.block⟩

def stmC (nm : ByteArray) (x1 x2 x3 x4 x5 x6 x7 x8 : Int) : List Value := [.string nm, .int .i64 x1, .int .i64 x2, .int .i64 x3, .int .i64 x4, .int .i64 x5, .int .i64 x6, .int .i64 x7, .int .i64 x8]

theorem stmC_one (nm : ByteArray) (x1 x2 x3 x4 x5 x6 x7 x8 : Int) : ∀ v ∈ stmC nm x1 x2 x3 x4 x5 x6 x7 x8, v.oneCell' = true := by
  intro v hv
  simp only [stmC, List.mem_cons, List.not_mem_nil, or_false] at hv
  rcases hv with rfl | rfl | rfl | rfl | rfl | rfl | rfl | rfl | rfl <;> rfl

end Go.Proofs.Ytmmbckchaklhaaa
