/-
  What the law's Good hands on.
-/
import Derived.Test.YtegbinlpojpffaaLGood
import Derived.Test.YtegbinlpojpffaaLKnown
namespace Go.Proofs.Ytegbinlpojpffaa
open Go.RowKit Go.Maps Lo

/-- Lots such as may be, in memory of the call's own. -/
structure GoodAt (now : Int) (l : List Lt) (w0 : Nat) (a : Option Addr) (c : Nat) (L : List Lt) (w : World) : Prop where
  good : Lo.Good now L
  lots : LotsAt w a L
  nil : a = none → c = 0
  cap : L.length ≤ c ∧ c ≤ 9223372036854775807
  own : ∀ x, a = some x → x = ⟨x.block, 0, none⟩ ∧ w0 ≤ x.block ∧ OwnL w x.block L
  eq : L = Lo.good now l
theorem goodAt_any (a : Option Addr) (cap : Nat) (l : List Lt) (now : Int) (w : World) (hlen : l.length ≤ 9223372036854775807) (hL : LotsAt w a l) (h0 : 0 ≤ now) (h1 : now ≤ 200000) :
    Calls Try.prog 15 #[.slice a l.length cap, .int .i64 now] w fun e w' => ∃ a' c' L, e = .returned (.slice a' L.length c') ∧ GoodAt now l w.heap.size a' c' L w' ∧ Turn [] w w' := by
  refine (good_any a cap l now w hlen hL h0 h1).mono ?_
  rintro e w' ⟨v, rfl, hO, hT⟩
  obtain ⟨a', c', rfl, _, h3, h4, h5, h6⟩ := own_lots hO
  refine ⟨a', c', Lo.good now l, rfl, ⟨good_good h0 l, h4, h3, h5, fun x hx => ?_, rfl⟩, hT⟩
  obtain ⟨e1, e2, e3, e4, e5⟩ := h6 x hx
  exact ⟨e1, e2, ⟨e5, e3, e4⟩⟩
theorem GoodAt.turn0 {now : Int} {l : List Lt} {w0 : Nat} {a : Option Addr} {c : Nat} {L : List Lt} {w w' : World} (h : GoodAt now l w0 a c L w) (hT : Turn [] w w') : GoodAt now l w0 a c L w' :=
  ⟨h.good, h.lots.turn0 hT, h.nil, h.cap, fun x hx => ⟨(h.own x hx).1, (h.own x hx).2.1, (h.own x hx).2.2.turn hT (by simp)⟩, h.eq⟩

end Go.Proofs.Ytegbinlpojpffaa
