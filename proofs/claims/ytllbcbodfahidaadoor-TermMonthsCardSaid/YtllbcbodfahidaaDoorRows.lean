/-
  NARROWER THAN 'FOR EVERY INPUT', by the rows' own cells (each row's printed sentence says how): TermBounds: laid · TermMonths: laid · TermShares: laid · TermDays: laid · TermErrors: laid · TermGrows: laid.
  DERIVED. THE GIVEN ROWS OF THIS SEAT. 6 by the template 'for every input the law returns true; each argument reads behind the call as it read before'; 0 by the template 'total and deterministic' (their statements: YtllbcbodfahidaaDoorTotals.lean).
  GIVEN WITH THE SEED: the statements are not yours to turn. If you find one false, say at which input.
  Laid BY PROGRAM, IN A SANDBOX (cutbox-rows.mjs): the forced cells as the released guide's own fill.sh prints them over the translation 81005ab6b1f2fcdd… (all of the seat's roots in one cut). By AI agents, Wed Nov 11 2026. No macro, syntax, notation, axiom, sorry.
-/
import Derived.Test.YtllbcbodfahidaaDoorChecked
import GoSem.Claim
import GoSem.ClaimJoined
import GoSem.ClaimMapViews
import Derived.JoinedTies
import Derived.KernelRfl
namespace Go.Proofs.YtllbcbodfahidaaDoor
/- THE CELL 'sum', in the pinned program and in every row, IS THE sha256 OF THE DUMP (.gsa) THAT YtllbcbodfahidaaDoorProg.lean LOADS. Nothing in Lean hashes anything: it is a label: what it is worth is what the hold of that sum in a sandbox is worth. -/
noncomputable def Tryd.pinned : Pinned := { name := "ytllbcbodfahidaadoor", sum := "81005ab6b1f2fcdd5df8883ec1cae5683d0bc94ba7a70191e2d963066d933475", checked := Tryd.checked }
namespace Rows
def none {H : Type} : Left H := { results := [], args := [] }

/- WHAT THE LISTED PACKAGE-LEVEL VARIABLES READ AS WHEN THE CALL BEGINS. Each datum BY PROGRAM (the guide's laid-datum.mjs) off the statement by which the dump's own 'gosem.cut.vars' lays the variable. In a bare row this is a premise. The card (YtllbcbodfahidaaDoorCards.lean) ties it to the program's text. -/
def laid_toll_civil_lengths {H : Type} : DataW H := .agg [.lit (.int .i64 31), .lit (.int .i64 28), .lit (.int .i64 31), .lit (.int .i64 30), .lit (.int .i64 31), .lit (.int .i64 30), .lit (.int .i64 31), .lit (.int .i64 31), .lit (.int .i64 30), .lit (.int .i64 31), .lit (.int .i64 30), .lit (.int .i64 31)]

/-- 'tolllaw8.TermBounds': WHATEVER THE INPUT: true; the input reads as it did. -/
def termBoundsSpec : ChangeSpec := { name := "termBounds", fn := fun _ => fun
  | [d1, d2, d3, d4] => { results := [.lit (.bool true)], args := [d1, d2, d3, d4] }
  | _ => none }
def termBoundsRow : OpenClaim := { program := "ytllbcbodfahidaadoor", sum := "81005ab6b1f2fcdd5df8883ec1cae5683d0bc94ba7a70191e2d963066d933475", func := "toll/tolllaw8.TermBounds", spec := "termBounds", unfollowed := true, recurses := true, named := ["toll/civil.lengths"], apart := false, laid := [("toll/civil.lengths", laid_toll_civil_lengths)] }
def TermBoundsSaid : Prop := termBoundsRow.holds Tryd.pinned (OpenSpec.ofChange termBoundsSpec)

/-- ITS FALSE NEIGHBOUR: 'it returns false'. Refute it at one input. -/
def termBoundsWrong : ChangeSpec := { name := "termBounds", fn := fun _ => fun
  | [d1, d2, d3, d4] => { results := [.lit (.bool false)], args := [d1, d2, d3, d4] }
  | _ => none }
def TermBoundsWrongFalsely : Prop := termBoundsRow.holds Tryd.pinned (OpenSpec.ofChange termBoundsWrong)

/-- 'tolllaw8.TermMonths': WHATEVER THE INPUT: true; the input reads as it did. -/
def termMonthsSpec : ChangeSpec := { name := "termMonths", fn := fun _ => fun
  | [d1, d2, d3] => { results := [.lit (.bool true)], args := [d1, d2, d3] }
  | _ => none }
def termMonthsRow : OpenClaim := { program := "ytllbcbodfahidaadoor", sum := "81005ab6b1f2fcdd5df8883ec1cae5683d0bc94ba7a70191e2d963066d933475", func := "toll/tolllaw8.TermMonths", spec := "termMonths", unfollowed := true, recurses := true, named := ["toll/civil.lengths"], apart := false, laid := [("toll/civil.lengths", laid_toll_civil_lengths)] }
def TermMonthsSaid : Prop := termMonthsRow.holds Tryd.pinned (OpenSpec.ofChange termMonthsSpec)

/-- ITS FALSE NEIGHBOUR: 'it returns false'. Refute it at one input. -/
def termMonthsWrong : ChangeSpec := { name := "termMonths", fn := fun _ => fun
  | [d1, d2, d3] => { results := [.lit (.bool false)], args := [d1, d2, d3] }
  | _ => none }
def TermMonthsWrongFalsely : Prop := termMonthsRow.holds Tryd.pinned (OpenSpec.ofChange termMonthsWrong)

/-- 'tolllaw8.TermShares': WHATEVER THE INPUT: true; the input reads as it did. -/
def termSharesSpec : ChangeSpec := { name := "termShares", fn := fun _ => fun
  | [d1, d2, d3] => { results := [.lit (.bool true)], args := [d1, d2, d3] }
  | _ => none }
def termSharesRow : OpenClaim := { program := "ytllbcbodfahidaadoor", sum := "81005ab6b1f2fcdd5df8883ec1cae5683d0bc94ba7a70191e2d963066d933475", func := "toll/tolllaw8.TermShares", spec := "termShares", unfollowed := true, recurses := true, named := ["toll/civil.lengths"], apart := false, laid := [("toll/civil.lengths", laid_toll_civil_lengths)] }
def TermSharesSaid : Prop := termSharesRow.holds Tryd.pinned (OpenSpec.ofChange termSharesSpec)

/-- ITS FALSE NEIGHBOUR: 'it returns false'. Refute it at one input. -/
def termSharesWrong : ChangeSpec := { name := "termShares", fn := fun _ => fun
  | [d1, d2, d3] => { results := [.lit (.bool false)], args := [d1, d2, d3] }
  | _ => none }
def TermSharesWrongFalsely : Prop := termSharesRow.holds Tryd.pinned (OpenSpec.ofChange termSharesWrong)

/-- 'tolllaw8.TermDays': WHATEVER THE INPUT: true; the input reads as it did. -/
def termDaysSpec : ChangeSpec := { name := "termDays", fn := fun _ => fun
  | [d1, d2, d3] => { results := [.lit (.bool true)], args := [d1, d2, d3] }
  | _ => none }
def termDaysRow : OpenClaim := { program := "ytllbcbodfahidaadoor", sum := "81005ab6b1f2fcdd5df8883ec1cae5683d0bc94ba7a70191e2d963066d933475", func := "toll/tolllaw8.TermDays", spec := "termDays", unfollowed := true, recurses := true, named := ["toll/civil.lengths"], apart := false, laid := [("toll/civil.lengths", laid_toll_civil_lengths)] }
def TermDaysSaid : Prop := termDaysRow.holds Tryd.pinned (OpenSpec.ofChange termDaysSpec)

/-- ITS FALSE NEIGHBOUR: 'it returns false'. Refute it at one input. -/
def termDaysWrong : ChangeSpec := { name := "termDays", fn := fun _ => fun
  | [d1, d2, d3] => { results := [.lit (.bool false)], args := [d1, d2, d3] }
  | _ => none }
def TermDaysWrongFalsely : Prop := termDaysRow.holds Tryd.pinned (OpenSpec.ofChange termDaysWrong)

/-- 'tolllaw8.TermErrors': WHATEVER THE INPUT: true; the input reads as it did. -/
def termErrorsSpec : ChangeSpec := { name := "termErrors", fn := fun _ => fun
  | [d1, d2, d3, d4] => { results := [.lit (.bool true)], args := [d1, d2, d3, d4] }
  | _ => none }
def termErrorsRow : OpenClaim := { program := "ytllbcbodfahidaadoor", sum := "81005ab6b1f2fcdd5df8883ec1cae5683d0bc94ba7a70191e2d963066d933475", func := "toll/tolllaw8.TermErrors", spec := "termErrors", unfollowed := true, recurses := true, named := ["toll/civil.lengths"], apart := false, laid := [("toll/civil.lengths", laid_toll_civil_lengths)] }
def TermErrorsSaid : Prop := termErrorsRow.holds Tryd.pinned (OpenSpec.ofChange termErrorsSpec)

/-- ITS FALSE NEIGHBOUR: 'it returns false'. Refute it at one input. -/
def termErrorsWrong : ChangeSpec := { name := "termErrors", fn := fun _ => fun
  | [d1, d2, d3, d4] => { results := [.lit (.bool false)], args := [d1, d2, d3, d4] }
  | _ => none }
def TermErrorsWrongFalsely : Prop := termErrorsRow.holds Tryd.pinned (OpenSpec.ofChange termErrorsWrong)

/-- 'tolllaw8.TermGrows': WHATEVER THE INPUT: true; the input reads as it did. -/
def termGrowsSpec : ChangeSpec := { name := "termGrows", fn := fun _ => fun
  | [d1, d2, d3, d4] => { results := [.lit (.bool true)], args := [d1, d2, d3, d4] }
  | _ => none }
def termGrowsRow : OpenClaim := { program := "ytllbcbodfahidaadoor", sum := "81005ab6b1f2fcdd5df8883ec1cae5683d0bc94ba7a70191e2d963066d933475", func := "toll/tolllaw8.TermGrows", spec := "termGrows", unfollowed := true, recurses := true, named := ["toll/civil.lengths"], apart := false, laid := [("toll/civil.lengths", laid_toll_civil_lengths)] }
def TermGrowsSaid : Prop := termGrowsRow.holds Tryd.pinned (OpenSpec.ofChange termGrowsSpec)

/-- ITS FALSE NEIGHBOUR: 'it returns false'. Refute it at one input. -/
def termGrowsWrong : ChangeSpec := { name := "termGrows", fn := fun _ => fun
  | [d1, d2, d3, d4] => { results := [.lit (.bool false)], args := [d1, d2, d3, d4] }
  | _ => none }
def TermGrowsWrongFalsely : Prop := termGrowsRow.holds Tryd.pinned (OpenSpec.ofChange termGrowsWrong)

/- THE SECOND FORM. 'bulk': how many values and letters a reading holds, each counted each time it is reached (what is shared counts as often as it is met; a slice's spare places count too). A statement '..UptoSaid' is the law's where the arguments, and the package variables that the reading takes, are together of bulk at most 1048576: NARROWER than '..Said'. Prove '..Said' where nothing that the law and all that it calls make is longer than what came in: it says more and counts as full. Else prove '..UptoSaid'. A law counts once. -/
mutual
def uptoBulk {H : Type} : DataW H → Nat
  | .lit (.string bytes) => bytes.length + 1
  | .lit _ => 1
  | .nil => 1
  | .ptr d => uptoBulk d + 1
  | .slice elems spare => uptoBulkAll elems + uptoBulkAll spare + 1
  | .agg parts => uptoBulkAll parts + 1
  | .iface _ d => uptoBulk d + 1
  | .map entries => uptoBulkEntries entries + 1
  | .held _ => 1
def uptoBulkAll {H : Type} : List (DataW H) → Nat
  | [] => 0
  | d :: r => uptoBulk d + uptoBulkAll r
def uptoBulkEntries {H : Type} : List (Lit × DataW H) → Nat
  | [] => 0
  | x :: r => uptoBulkEntry x + uptoBulkEntries r
def uptoBulkEntry {H : Type} : Lit × DataW H → Nat
  | (.string bytes, d) => bytes.length + uptoBulk d + 1
  | (_, d) => uptoBulk d + 1
 end
def uptoSmall : (H : Type) → List (DataW H) → Bool := fun _ ds => decide (uptoBulkAll ds ≤ 1048576)
def OpenSpec.upto (s : _root_.Go.ChangeSpec) : _root_.Go.OpenSpec := { _root_.Go.OpenSpec.ofChange s with cond := some uptoSmall }

/-- 'tolllaw8.TermBounds', WHERE WHAT IT READS IS OF BULK AT MOST 1048576: true; the input reads as it did. -/
def termBoundsUptoRow : OpenClaim := { program := "ytllbcbodfahidaadoor", sum := "81005ab6b1f2fcdd5df8883ec1cae5683d0bc94ba7a70191e2d963066d933475", func := "toll/tolllaw8.TermBounds", spec := "termBounds", unfollowed := true, recurses := true, named := ["toll/civil.lengths"], apart := false, laid := [("toll/civil.lengths", laid_toll_civil_lengths)], narrowed := true }
def TermBoundsUptoSaid : Prop := termBoundsUptoRow.holds Tryd.pinned (OpenSpec.upto termBoundsSpec)

/-- 'tolllaw8.TermMonths', WHERE WHAT IT READS IS OF BULK AT MOST 1048576: true; the input reads as it did. -/
def termMonthsUptoRow : OpenClaim := { program := "ytllbcbodfahidaadoor", sum := "81005ab6b1f2fcdd5df8883ec1cae5683d0bc94ba7a70191e2d963066d933475", func := "toll/tolllaw8.TermMonths", spec := "termMonths", unfollowed := true, recurses := true, named := ["toll/civil.lengths"], apart := false, laid := [("toll/civil.lengths", laid_toll_civil_lengths)], narrowed := true }
def TermMonthsUptoSaid : Prop := termMonthsUptoRow.holds Tryd.pinned (OpenSpec.upto termMonthsSpec)

/-- 'tolllaw8.TermShares', WHERE WHAT IT READS IS OF BULK AT MOST 1048576: true; the input reads as it did. -/
def termSharesUptoRow : OpenClaim := { program := "ytllbcbodfahidaadoor", sum := "81005ab6b1f2fcdd5df8883ec1cae5683d0bc94ba7a70191e2d963066d933475", func := "toll/tolllaw8.TermShares", spec := "termShares", unfollowed := true, recurses := true, named := ["toll/civil.lengths"], apart := false, laid := [("toll/civil.lengths", laid_toll_civil_lengths)], narrowed := true }
def TermSharesUptoSaid : Prop := termSharesUptoRow.holds Tryd.pinned (OpenSpec.upto termSharesSpec)

/-- 'tolllaw8.TermDays', WHERE WHAT IT READS IS OF BULK AT MOST 1048576: true; the input reads as it did. -/
def termDaysUptoRow : OpenClaim := { program := "ytllbcbodfahidaadoor", sum := "81005ab6b1f2fcdd5df8883ec1cae5683d0bc94ba7a70191e2d963066d933475", func := "toll/tolllaw8.TermDays", spec := "termDays", unfollowed := true, recurses := true, named := ["toll/civil.lengths"], apart := false, laid := [("toll/civil.lengths", laid_toll_civil_lengths)], narrowed := true }
def TermDaysUptoSaid : Prop := termDaysUptoRow.holds Tryd.pinned (OpenSpec.upto termDaysSpec)

/-- 'tolllaw8.TermErrors', WHERE WHAT IT READS IS OF BULK AT MOST 1048576: true; the input reads as it did. -/
def termErrorsUptoRow : OpenClaim := { program := "ytllbcbodfahidaadoor", sum := "81005ab6b1f2fcdd5df8883ec1cae5683d0bc94ba7a70191e2d963066d933475", func := "toll/tolllaw8.TermErrors", spec := "termErrors", unfollowed := true, recurses := true, named := ["toll/civil.lengths"], apart := false, laid := [("toll/civil.lengths", laid_toll_civil_lengths)], narrowed := true }
def TermErrorsUptoSaid : Prop := termErrorsUptoRow.holds Tryd.pinned (OpenSpec.upto termErrorsSpec)

/-- 'tolllaw8.TermGrows', WHERE WHAT IT READS IS OF BULK AT MOST 1048576: true; the input reads as it did. -/
def termGrowsUptoRow : OpenClaim := { program := "ytllbcbodfahidaadoor", sum := "81005ab6b1f2fcdd5df8883ec1cae5683d0bc94ba7a70191e2d963066d933475", func := "toll/tolllaw8.TermGrows", spec := "termGrows", unfollowed := true, recurses := true, named := ["toll/civil.lengths"], apart := false, laid := [("toll/civil.lengths", laid_toll_civil_lengths)], narrowed := true }
def TermGrowsUptoSaid : Prop := termGrowsUptoRow.holds Tryd.pinned (OpenSpec.upto termGrowsSpec)

end Rows
end Go.Proofs.YtllbcbodfahidaaDoor
