/-
  NARROWER THAN 'FOR EVERY INPUT', by the rows' own cells (each row's printed sentence says how): CivilDates: laid · CivilBack: laid · CivilYears: laid · CivilOrder: laid · CivilBounds: laid · CivilMonths: laid.
  DERIVED. THE GIVEN ROWS OF THIS SEAT. 6 by the template 'for every input the law returns true; each argument reads behind the call as it read before'; 0 by the template 'total and deterministic' (their statements: YteeffhgafnapfaaDoorTotals.lean).
  GIVEN WITH THE SEED: the statements are not yours to turn. If you find one false, say at which input.
  Laid BY PROGRAM, IN A SANDBOX (cutbox-rows.mjs): the forced cells as the released guide's own fill.sh prints them over the translation 2f907294f13775b5… (all of the seat's roots in one cut). By AI agents, Wed Nov 11 2026. No macro, syntax, notation, axiom, sorry.
-/
import Derived.Test.YteeffhgafnapfaaDoorChecked
import GoSem.Claim
import GoSem.ClaimJoined
import GoSem.ClaimMapViews
import Derived.JoinedTies
import Derived.KernelRfl
namespace Go.Proofs.YteeffhgafnapfaaDoor
/- THE CELL 'sum', in the pinned program and in every row, IS THE sha256 OF THE DUMP (.gsa) THAT YteeffhgafnapfaaDoorProg.lean LOADS. Nothing in Lean hashes anything: it is a label: what it is worth is what the hold of that sum in a sandbox is worth. -/
noncomputable def Tryd.pinned : Pinned := { name := "yteeffhgafnapfaadoor", sum := "2f907294f13775b5071ff72399ef8e8bbe21538dc9f62ceddef7f2b116d48151", checked := Tryd.checked }
namespace Rows
def none {H : Type} : Left H := { results := [], args := [] }

/- WHAT THE LISTED PACKAGE-LEVEL VARIABLES READ AS WHEN THE CALL BEGINS. Each datum BY PROGRAM (the guide's laid-datum.mjs) off the statement by which the dump's own 'gosem.cut.vars' lays the variable. In a bare row this is a premise. The card (YteeffhgafnapfaaDoorCards.lean) ties it to the program's text. -/
def laid_toll_civil_lengths {H : Type} : DataW H := .agg [.lit (.int .i64 31), .lit (.int .i64 28), .lit (.int .i64 31), .lit (.int .i64 30), .lit (.int .i64 31), .lit (.int .i64 30), .lit (.int .i64 31), .lit (.int .i64 31), .lit (.int .i64 30), .lit (.int .i64 31), .lit (.int .i64 30), .lit (.int .i64 31)]

/-- 'tolllaw7.CivilDates': WHATEVER THE INPUT: true; the input reads as it did. -/
def civilDatesSpec : ChangeSpec := { name := "civilDates", fn := fun _ => fun
  | [d1, d2] => { results := [.lit (.bool true)], args := [d1, d2] }
  | _ => none }
def civilDatesRow : OpenClaim := { program := "yteeffhgafnapfaadoor", sum := "2f907294f13775b5071ff72399ef8e8bbe21538dc9f62ceddef7f2b116d48151", func := "toll/tolllaw7.CivilDates", spec := "civilDates", unfollowed := true, recurses := true, named := ["toll/civil.lengths"], apart := false, laid := [("toll/civil.lengths", laid_toll_civil_lengths)] }
def CivilDatesSaid : Prop := civilDatesRow.holds Tryd.pinned (OpenSpec.ofChange civilDatesSpec)

/-- ITS FALSE NEIGHBOUR: 'it returns false'. Refute it at one input. -/
def civilDatesWrong : ChangeSpec := { name := "civilDates", fn := fun _ => fun
  | [d1, d2] => { results := [.lit (.bool false)], args := [d1, d2] }
  | _ => none }
def CivilDatesWrongFalsely : Prop := civilDatesRow.holds Tryd.pinned (OpenSpec.ofChange civilDatesWrong)

/-- 'tolllaw7.CivilBack': WHATEVER THE INPUT: true; the input reads as it did. -/
def civilBackSpec : ChangeSpec := { name := "civilBack", fn := fun _ => fun
  | [d] => { results := [.lit (.bool true)], args := [d] }
  | _ => none }
def civilBackRow : OpenClaim := { program := "yteeffhgafnapfaadoor", sum := "2f907294f13775b5071ff72399ef8e8bbe21538dc9f62ceddef7f2b116d48151", func := "toll/tolllaw7.CivilBack", spec := "civilBack", unfollowed := true, recurses := true, named := ["toll/civil.lengths"], apart := false, laid := [("toll/civil.lengths", laid_toll_civil_lengths)] }
def CivilBackSaid : Prop := civilBackRow.holds Tryd.pinned (OpenSpec.ofChange civilBackSpec)

/-- ITS FALSE NEIGHBOUR: 'it returns false'. Refute it at one input. -/
def civilBackWrong : ChangeSpec := { name := "civilBack", fn := fun _ => fun
  | [d] => { results := [.lit (.bool false)], args := [d] }
  | _ => none }
def CivilBackWrongFalsely : Prop := civilBackRow.holds Tryd.pinned (OpenSpec.ofChange civilBackWrong)

/-- 'tolllaw7.CivilYears': WHATEVER THE INPUT: true; the input reads as it did. -/
def civilYearsSpec : ChangeSpec := { name := "civilYears", fn := fun _ => fun
  | [d] => { results := [.lit (.bool true)], args := [d] }
  | _ => none }
def civilYearsRow : OpenClaim := { program := "yteeffhgafnapfaadoor", sum := "2f907294f13775b5071ff72399ef8e8bbe21538dc9f62ceddef7f2b116d48151", func := "toll/tolllaw7.CivilYears", spec := "civilYears", unfollowed := true, recurses := true, named := ["toll/civil.lengths"], apart := false, laid := [("toll/civil.lengths", laid_toll_civil_lengths)] }
def CivilYearsSaid : Prop := civilYearsRow.holds Tryd.pinned (OpenSpec.ofChange civilYearsSpec)

/-- ITS FALSE NEIGHBOUR: 'it returns false'. Refute it at one input. -/
def civilYearsWrong : ChangeSpec := { name := "civilYears", fn := fun _ => fun
  | [d] => { results := [.lit (.bool false)], args := [d] }
  | _ => none }
def CivilYearsWrongFalsely : Prop := civilYearsRow.holds Tryd.pinned (OpenSpec.ofChange civilYearsWrong)

/-- 'tolllaw7.CivilOrder': WHATEVER THE INPUT: true; the input reads as it did. -/
def civilOrderSpec : ChangeSpec := { name := "civilOrder", fn := fun _ => fun
  | [d1, d2] => { results := [.lit (.bool true)], args := [d1, d2] }
  | _ => none }
def civilOrderRow : OpenClaim := { program := "yteeffhgafnapfaadoor", sum := "2f907294f13775b5071ff72399ef8e8bbe21538dc9f62ceddef7f2b116d48151", func := "toll/tolllaw7.CivilOrder", spec := "civilOrder", unfollowed := true, recurses := true, named := ["toll/civil.lengths"], apart := false, laid := [("toll/civil.lengths", laid_toll_civil_lengths)] }
def CivilOrderSaid : Prop := civilOrderRow.holds Tryd.pinned (OpenSpec.ofChange civilOrderSpec)

/-- ITS FALSE NEIGHBOUR: 'it returns false'. Refute it at one input. -/
def civilOrderWrong : ChangeSpec := { name := "civilOrder", fn := fun _ => fun
  | [d1, d2] => { results := [.lit (.bool false)], args := [d1, d2] }
  | _ => none }
def CivilOrderWrongFalsely : Prop := civilOrderRow.holds Tryd.pinned (OpenSpec.ofChange civilOrderWrong)

/-- 'tolllaw7.CivilBounds': WHATEVER THE INPUT: true; the input reads as it did. -/
def civilBoundsSpec : ChangeSpec := { name := "civilBounds", fn := fun _ => fun
  | [d1, d2, d3, d4] => { results := [.lit (.bool true)], args := [d1, d2, d3, d4] }
  | _ => none }
def civilBoundsRow : OpenClaim := { program := "yteeffhgafnapfaadoor", sum := "2f907294f13775b5071ff72399ef8e8bbe21538dc9f62ceddef7f2b116d48151", func := "toll/tolllaw7.CivilBounds", spec := "civilBounds", unfollowed := true, recurses := true, named := ["toll/civil.lengths"], apart := false, laid := [("toll/civil.lengths", laid_toll_civil_lengths)] }
def CivilBoundsSaid : Prop := civilBoundsRow.holds Tryd.pinned (OpenSpec.ofChange civilBoundsSpec)

/-- ITS FALSE NEIGHBOUR: 'it returns false'. Refute it at one input. -/
def civilBoundsWrong : ChangeSpec := { name := "civilBounds", fn := fun _ => fun
  | [d1, d2, d3, d4] => { results := [.lit (.bool false)], args := [d1, d2, d3, d4] }
  | _ => none }
def CivilBoundsWrongFalsely : Prop := civilBoundsRow.holds Tryd.pinned (OpenSpec.ofChange civilBoundsWrong)

/-- 'tolllaw7.CivilMonths': WHATEVER THE INPUT: true; the input reads as it did. -/
def civilMonthsSpec : ChangeSpec := { name := "civilMonths", fn := fun _ => fun
  | [d1, d2] => { results := [.lit (.bool true)], args := [d1, d2] }
  | _ => none }
def civilMonthsRow : OpenClaim := { program := "yteeffhgafnapfaadoor", sum := "2f907294f13775b5071ff72399ef8e8bbe21538dc9f62ceddef7f2b116d48151", func := "toll/tolllaw7.CivilMonths", spec := "civilMonths", unfollowed := true, recurses := true, named := ["toll/civil.lengths"], apart := false, laid := [("toll/civil.lengths", laid_toll_civil_lengths)] }
def CivilMonthsSaid : Prop := civilMonthsRow.holds Tryd.pinned (OpenSpec.ofChange civilMonthsSpec)

/-- ITS FALSE NEIGHBOUR: 'it returns false'. Refute it at one input. -/
def civilMonthsWrong : ChangeSpec := { name := "civilMonths", fn := fun _ => fun
  | [d1, d2] => { results := [.lit (.bool false)], args := [d1, d2] }
  | _ => none }
def CivilMonthsWrongFalsely : Prop := civilMonthsRow.holds Tryd.pinned (OpenSpec.ofChange civilMonthsWrong)

/- THE SECOND FORM. 'bulk': how many values and letters a reading holds, each counted each time it is reached (what is shared counts as often as it is met; a slice's spare places count too). A statement '..UptoSaid' is the law's where the arguments, and the package variables that the reading takes, are together of bulk at most 1048576: NARROWER than '..Said'. Prove '..Said' where nothing that the law and all that it calls make is longer than what came in: it says more and counts as full. Else prove '..UptoSaid'. A law counts once. -/
mutual
def uptoBulk {H : Type} : DataW H → Nat
  | .lit (.string bytes) => bytes.length + 1
  | .lit _ => 1
  | .nil => 1
  | .ptr d => uptoBulk d + 1
  | .slice elems spare => uptoBulkAll elems + uptoBulkAll spare + 1
  | .agg parts => uptoBulkAll parts + 1
  | .iface _ d => uptoBulk d + 1
  | .map entries => uptoBulkEntries entries + 1
  | .held _ => 1
def uptoBulkAll {H : Type} : List (DataW H) → Nat
  | [] => 0
  | d :: r => uptoBulk d + uptoBulkAll r
def uptoBulkEntries {H : Type} : List (Lit × DataW H) → Nat
  | [] => 0
  | x :: r => uptoBulkEntry x + uptoBulkEntries r
def uptoBulkEntry {H : Type} : Lit × DataW H → Nat
  | (.string bytes, d) => bytes.length + uptoBulk d + 1
  | (_, d) => uptoBulk d + 1
 end
def uptoSmall : (H : Type) → List (DataW H) → Bool := fun _ ds => decide (uptoBulkAll ds ≤ 1048576)
def OpenSpec.upto (s : _root_.Go.ChangeSpec) : _root_.Go.OpenSpec := { _root_.Go.OpenSpec.ofChange s with cond := some uptoSmall }

/-- 'tolllaw7.CivilDates', WHERE WHAT IT READS IS OF BULK AT MOST 1048576: true; the input reads as it did. -/
def civilDatesUptoRow : OpenClaim := { program := "yteeffhgafnapfaadoor", sum := "2f907294f13775b5071ff72399ef8e8bbe21538dc9f62ceddef7f2b116d48151", func := "toll/tolllaw7.CivilDates", spec := "civilDates", unfollowed := true, recurses := true, named := ["toll/civil.lengths"], apart := false, laid := [("toll/civil.lengths", laid_toll_civil_lengths)], narrowed := true }
def CivilDatesUptoSaid : Prop := civilDatesUptoRow.holds Tryd.pinned (OpenSpec.upto civilDatesSpec)

/-- 'tolllaw7.CivilBack', WHERE WHAT IT READS IS OF BULK AT MOST 1048576: true; the input reads as it did. -/
def civilBackUptoRow : OpenClaim := { program := "yteeffhgafnapfaadoor", sum := "2f907294f13775b5071ff72399ef8e8bbe21538dc9f62ceddef7f2b116d48151", func := "toll/tolllaw7.CivilBack", spec := "civilBack", unfollowed := true, recurses := true, named := ["toll/civil.lengths"], apart := false, laid := [("toll/civil.lengths", laid_toll_civil_lengths)], narrowed := true }
def CivilBackUptoSaid : Prop := civilBackUptoRow.holds Tryd.pinned (OpenSpec.upto civilBackSpec)

/-- 'tolllaw7.CivilYears', WHERE WHAT IT READS IS OF BULK AT MOST 1048576: true; the input reads as it did. -/
def civilYearsUptoRow : OpenClaim := { program := "yteeffhgafnapfaadoor", sum := "2f907294f13775b5071ff72399ef8e8bbe21538dc9f62ceddef7f2b116d48151", func := "toll/tolllaw7.CivilYears", spec := "civilYears", unfollowed := true, recurses := true, named := ["toll/civil.lengths"], apart := false, laid := [("toll/civil.lengths", laid_toll_civil_lengths)], narrowed := true }
def CivilYearsUptoSaid : Prop := civilYearsUptoRow.holds Tryd.pinned (OpenSpec.upto civilYearsSpec)

/-- 'tolllaw7.CivilOrder', WHERE WHAT IT READS IS OF BULK AT MOST 1048576: true; the input reads as it did. -/
def civilOrderUptoRow : OpenClaim := { program := "yteeffhgafnapfaadoor", sum := "2f907294f13775b5071ff72399ef8e8bbe21538dc9f62ceddef7f2b116d48151", func := "toll/tolllaw7.CivilOrder", spec := "civilOrder", unfollowed := true, recurses := true, named := ["toll/civil.lengths"], apart := false, laid := [("toll/civil.lengths", laid_toll_civil_lengths)], narrowed := true }
def CivilOrderUptoSaid : Prop := civilOrderUptoRow.holds Tryd.pinned (OpenSpec.upto civilOrderSpec)

/-- 'tolllaw7.CivilBounds', WHERE WHAT IT READS IS OF BULK AT MOST 1048576: true; the input reads as it did. -/
def civilBoundsUptoRow : OpenClaim := { program := "yteeffhgafnapfaadoor", sum := "2f907294f13775b5071ff72399ef8e8bbe21538dc9f62ceddef7f2b116d48151", func := "toll/tolllaw7.CivilBounds", spec := "civilBounds", unfollowed := true, recurses := true, named := ["toll/civil.lengths"], apart := false, laid := [("toll/civil.lengths", laid_toll_civil_lengths)], narrowed := true }
def CivilBoundsUptoSaid : Prop := civilBoundsUptoRow.holds Tryd.pinned (OpenSpec.upto civilBoundsSpec)

/-- 'tolllaw7.CivilMonths', WHERE WHAT IT READS IS OF BULK AT MOST 1048576: true; the input reads as it did. -/
def civilMonthsUptoRow : OpenClaim := { program := "yteeffhgafnapfaadoor", sum := "2f907294f13775b5071ff72399ef8e8bbe21538dc9f62ceddef7f2b116d48151", func := "toll/tolllaw7.CivilMonths", spec := "civilMonths", unfollowed := true, recurses := true, named := ["toll/civil.lengths"], apart := false, laid := [("toll/civil.lengths", laid_toll_civil_lengths)], narrowed := true }
def CivilMonthsUptoSaid : Prop := civilMonthsUptoRow.holds Tryd.pinned (OpenSpec.upto civilMonthsSpec)

end Rows
end Go.Proofs.YteeffhgafnapfaaDoor
