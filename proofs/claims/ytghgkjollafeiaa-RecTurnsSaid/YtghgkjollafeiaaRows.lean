/-
  No cell of these rows narrows 'for every input' (looked for: loops, veiled, ifaces, maps, wideKeys, modest, calm, conditions, laid).
  DERIVED. THE GIVEN ROWS OF THIS SEAT. 4 by the template 'for every input the law returns true; each argument reads behind the call as it read before'; 0 by the template 'total and deterministic' (their statements: YtghgkjollafeiaaTotals.lean).
  GIVEN WITH THE SEED: the statements are not yours to turn. If you find one false, say at which input.
  Laid BY PROGRAM, IN A SANDBOX (cutbox-rows.mjs): the forced cells as the released guide's own fill.sh prints them over the translation e6bb57053f85da96… (all of the seat's roots in one cut). By AI agents, Wed Nov 11 2026. No macro, syntax, notation, axiom, sorry.
-/
import Derived.Test.YtghgkjollafeiaaChecked
import GoSem.Claim
import GoSem.ClaimJoined
import GoSem.ClaimMapViews
import Derived.JoinedTies
import Derived.KernelRfl
namespace Go.Proofs.Ytghgkjollafeiaa
/- THE CELL 'sum', in the pinned program and in every row, IS THE sha256 OF THE DUMP (.gsa) THAT YtghgkjollafeiaaProg.lean LOADS. Nothing in Lean hashes anything: it is a label: what it is worth is what the hold of that sum in a sandbox is worth. -/
noncomputable def Try.pinned : Pinned := { name := "ytghgkjollafeiaa", sum := "e6bb57053f85da96115d45afdb9307994aedcb7d5c8239ba30d80caac25c674b", checked := Try.checked }
namespace Rows
def none {H : Type} : Left H := { results := [], args := [] }

/-- 'tolllaw6.RecAccounts': WHATEVER THE INPUT: true; the input reads as it did. -/
def recAccountsSpec : ChangeSpec := { name := "recAccounts", fn := fun _ => fun
  | [d1, d2] => { results := [.lit (.bool true)], args := [d1, d2] }
  | _ => none }
def recAccountsRow : OpenClaim := { program := "ytghgkjollafeiaa", sum := "e6bb57053f85da96115d45afdb9307994aedcb7d5c8239ba30d80caac25c674b", func := "toll/tolllaw6.RecAccounts", spec := "recAccounts", unfollowed := true, recurses := true, apart := false }
def RecAccountsSaid : Prop := recAccountsRow.holds Try.pinned (OpenSpec.ofChange recAccountsSpec)

/-- ITS FALSE NEIGHBOUR: 'it returns false'. Refute it at one input. -/
def recAccountsWrong : ChangeSpec := { name := "recAccounts", fn := fun _ => fun
  | [d1, d2] => { results := [.lit (.bool false)], args := [d1, d2] }
  | _ => none }
def RecAccountsWrongFalsely : Prop := recAccountsRow.holds Try.pinned (OpenSpec.ofChange recAccountsWrong)

/-- 'tolllaw6.RecPlans': WHATEVER THE INPUT: true; the input reads as it did. -/
def recPlansSpec : ChangeSpec := { name := "recPlans", fn := fun _ => fun
  | [d1, d2, d3] => { results := [.lit (.bool true)], args := [d1, d2, d3] }
  | _ => none }
def recPlansRow : OpenClaim := { program := "ytghgkjollafeiaa", sum := "e6bb57053f85da96115d45afdb9307994aedcb7d5c8239ba30d80caac25c674b", func := "toll/tolllaw6.RecPlans", spec := "recPlans", unfollowed := true, recurses := true, apart := false }
def RecPlansSaid : Prop := recPlansRow.holds Try.pinned (OpenSpec.ofChange recPlansSpec)

/-- ITS FALSE NEIGHBOUR: 'it returns false'. Refute it at one input. -/
def recPlansWrong : ChangeSpec := { name := "recPlans", fn := fun _ => fun
  | [d1, d2, d3] => { results := [.lit (.bool false)], args := [d1, d2, d3] }
  | _ => none }
def RecPlansWrongFalsely : Prop := recPlansRow.holds Try.pinned (OpenSpec.ofChange recPlansWrong)

/-- 'tolllaw6.RecTurns': WHATEVER THE INPUT: true; the input reads as it did. -/
def recTurnsSpec : ChangeSpec := { name := "recTurns", fn := fun _ => fun
  | [d1, d2, d3, d4, d5, d6] => { results := [.lit (.bool true)], args := [d1, d2, d3, d4, d5, d6] }
  | _ => none }
def recTurnsRow : OpenClaim := { program := "ytghgkjollafeiaa", sum := "e6bb57053f85da96115d45afdb9307994aedcb7d5c8239ba30d80caac25c674b", func := "toll/tolllaw6.RecTurns", spec := "recTurns", unfollowed := true, recurses := true, apart := false }
def RecTurnsSaid : Prop := recTurnsRow.holds Try.pinned (OpenSpec.ofChange recTurnsSpec)

/-- ITS FALSE NEIGHBOUR: 'it returns false'. Refute it at one input. -/
def recTurnsWrong : ChangeSpec := { name := "recTurns", fn := fun _ => fun
  | [d1, d2, d3, d4, d5, d6] => { results := [.lit (.bool false)], args := [d1, d2, d3, d4, d5, d6] }
  | _ => none }
def RecTurnsWrongFalsely : Prop := recTurnsRow.holds Try.pinned (OpenSpec.ofChange recTurnsWrong)

/-- 'tolllaw6.RecNumbers': WHATEVER THE INPUT: true; the input reads as it did. -/
def recNumbersSpec : ChangeSpec := { name := "recNumbers", fn := fun _ => fun
  | [d1, d2] => { results := [.lit (.bool true)], args := [d1, d2] }
  | _ => none }
def recNumbersRow : OpenClaim := { program := "ytghgkjollafeiaa", sum := "e6bb57053f85da96115d45afdb9307994aedcb7d5c8239ba30d80caac25c674b", func := "toll/tolllaw6.RecNumbers", spec := "recNumbers", apart := false }
def RecNumbersSaid : Prop := recNumbersRow.holds Try.pinned (OpenSpec.ofChange recNumbersSpec)

/-- ITS FALSE NEIGHBOUR: 'it returns false'. Refute it at one input. -/
def recNumbersWrong : ChangeSpec := { name := "recNumbers", fn := fun _ => fun
  | [d1, d2] => { results := [.lit (.bool false)], args := [d1, d2] }
  | _ => none }
def RecNumbersWrongFalsely : Prop := recNumbersRow.holds Try.pinned (OpenSpec.ofChange recNumbersWrong)

/- THE SECOND FORM. 'bulk': how many values and letters a reading holds, each counted each time it is reached (what is shared counts as often as it is met; a slice's spare places count too). A statement '..UptoSaid' is the law's where the arguments, and the package variables that the reading takes, are together of bulk at most 1048576: NARROWER than '..Said'. Prove '..Said' where nothing that the law and all that it calls make is longer than what came in: it says more and counts as full. Else prove '..UptoSaid'. A law counts once. -/
mutual
def uptoBulk {H : Type} : DataW H → Nat
  | .lit (.string bytes) => bytes.length + 1
  | .lit _ => 1
  | .nil => 1
  | .ptr d => uptoBulk d + 1
  | .slice elems spare => uptoBulkAll elems + uptoBulkAll spare + 1
  | .agg parts => uptoBulkAll parts + 1
  | .iface _ d => uptoBulk d + 1
  | .map entries => uptoBulkEntries entries + 1
  | .held _ => 1
def uptoBulkAll {H : Type} : List (DataW H) → Nat
  | [] => 0
  | d :: r => uptoBulk d + uptoBulkAll r
def uptoBulkEntries {H : Type} : List (Lit × DataW H) → Nat
  | [] => 0
  | x :: r => uptoBulkEntry x + uptoBulkEntries r
def uptoBulkEntry {H : Type} : Lit × DataW H → Nat
  | (.string bytes, d) => bytes.length + uptoBulk d + 1
  | (_, d) => uptoBulk d + 1
 end
def uptoSmall : (H : Type) → List (DataW H) → Bool := fun _ ds => decide (uptoBulkAll ds ≤ 1048576)
def OpenSpec.upto (s : _root_.Go.ChangeSpec) : _root_.Go.OpenSpec := { _root_.Go.OpenSpec.ofChange s with cond := some uptoSmall }

/-- 'tolllaw6.RecAccounts', WHERE WHAT IT READS IS OF BULK AT MOST 1048576: true; the input reads as it did. -/
def recAccountsUptoRow : OpenClaim := { program := "ytghgkjollafeiaa", sum := "e6bb57053f85da96115d45afdb9307994aedcb7d5c8239ba30d80caac25c674b", func := "toll/tolllaw6.RecAccounts", spec := "recAccounts", unfollowed := true, recurses := true, apart := false, narrowed := true }
def RecAccountsUptoSaid : Prop := recAccountsUptoRow.holds Try.pinned (OpenSpec.upto recAccountsSpec)

/-- 'tolllaw6.RecPlans', WHERE WHAT IT READS IS OF BULK AT MOST 1048576: true; the input reads as it did. -/
def recPlansUptoRow : OpenClaim := { program := "ytghgkjollafeiaa", sum := "e6bb57053f85da96115d45afdb9307994aedcb7d5c8239ba30d80caac25c674b", func := "toll/tolllaw6.RecPlans", spec := "recPlans", unfollowed := true, recurses := true, apart := false, narrowed := true }
def RecPlansUptoSaid : Prop := recPlansUptoRow.holds Try.pinned (OpenSpec.upto recPlansSpec)

/-- 'tolllaw6.RecTurns', WHERE WHAT IT READS IS OF BULK AT MOST 1048576: true; the input reads as it did. -/
def recTurnsUptoRow : OpenClaim := { program := "ytghgkjollafeiaa", sum := "e6bb57053f85da96115d45afdb9307994aedcb7d5c8239ba30d80caac25c674b", func := "toll/tolllaw6.RecTurns", spec := "recTurns", unfollowed := true, recurses := true, apart := false, narrowed := true }
def RecTurnsUptoSaid : Prop := recTurnsUptoRow.holds Try.pinned (OpenSpec.upto recTurnsSpec)

/-- 'tolllaw6.RecNumbers', WHERE WHAT IT READS IS OF BULK AT MOST 1048576: true; the input reads as it did. -/
def recNumbersUptoRow : OpenClaim := { program := "ytghgkjollafeiaa", sum := "e6bb57053f85da96115d45afdb9307994aedcb7d5c8239ba30d80caac25c674b", func := "toll/tolllaw6.RecNumbers", spec := "recNumbers", apart := false, narrowed := true }
def RecNumbersUptoSaid : Prop := recNumbersUptoRow.holds Try.pinned (OpenSpec.upto recNumbersSpec)

end Rows
end Go.Proofs.Ytghgkjollafeiaa
