/-
  DERIVED. GIVEN WITH THE SEED: THE CARDS: each row of YtllbcbodfahidaaDoorRows.lean that lists a variable, with what it lists TIED to the program's text (the seventh form; the later family's looks); each row that meets fmt, with fmt's text TOLD by the authors' own Lean function (tested against real Go, not proved from fmt's source: count such statements apart). THE CARD IS WHAT COUNTS. Prove the row's statement (the work); the ties are given (YtllbcbodfahidaaDoorTie.lean); close each card by the builder's one call (the guide's Derived/Test/ToyasCard.lean, 'card_holds'). Laid BY PROGRAM, IN A SANDBOX (cutbox-door.mjs). By AI agents, Wed Nov 11 2026. No macro, syntax, notation, axiom, sorry.
-/
import Derived.Test.YtllbcbodfahidaaDoorRows
import GoSem.ClaimSeven
namespace Go.Proofs.YtllbcbodfahidaaDoor
namespace Rows

/-- THE TIED CARD OF 'tolllaw8.TermBounds'. -/
def termBoundsCard : Claim7 := { stood := { row := termBoundsRow, standIns := [], harness := (true, "6f3cf3f723c4d787e366fe3b0dfea3469388891acc0c2e8525d4f7c9ba5a635e"), looks := false }, kinds := [], alts := [], laidByText := true, laidKinds := [.data], laidTests := true, laidLooks := .later }
def TermBoundsCardSaid : Prop := Claim7.holds Tryd.pinned (.plain (OpenSpec.ofChange termBoundsSpec)) termBoundsCard

/-- THE TIED CARD OF 'tolllaw8.TermMonths'. -/
def termMonthsCard : Claim7 := { stood := { row := termMonthsRow, standIns := [], harness := (true, "6f3cf3f723c4d787e366fe3b0dfea3469388891acc0c2e8525d4f7c9ba5a635e"), looks := false }, kinds := [], alts := [], laidByText := true, laidKinds := [.data], laidTests := true, laidLooks := .later }
def TermMonthsCardSaid : Prop := Claim7.holds Tryd.pinned (.plain (OpenSpec.ofChange termMonthsSpec)) termMonthsCard

/-- THE TIED CARD OF 'tolllaw8.TermShares'. -/
def termSharesCard : Claim7 := { stood := { row := termSharesRow, standIns := [], harness := (true, "6f3cf3f723c4d787e366fe3b0dfea3469388891acc0c2e8525d4f7c9ba5a635e"), looks := false }, kinds := [], alts := [], laidByText := true, laidKinds := [.data], laidTests := true, laidLooks := .later }
def TermSharesCardSaid : Prop := Claim7.holds Tryd.pinned (.plain (OpenSpec.ofChange termSharesSpec)) termSharesCard

/-- THE TIED CARD OF 'tolllaw8.TermDays'. -/
def termDaysCard : Claim7 := { stood := { row := termDaysRow, standIns := [], harness := (true, "6f3cf3f723c4d787e366fe3b0dfea3469388891acc0c2e8525d4f7c9ba5a635e"), looks := false }, kinds := [], alts := [], laidByText := true, laidKinds := [.data], laidTests := true, laidLooks := .later }
def TermDaysCardSaid : Prop := Claim7.holds Tryd.pinned (.plain (OpenSpec.ofChange termDaysSpec)) termDaysCard

/-- THE TIED CARD OF 'tolllaw8.TermErrors'. -/
def termErrorsCard : Claim7 := { stood := { row := termErrorsRow, standIns := [], harness := (true, "6f3cf3f723c4d787e366fe3b0dfea3469388891acc0c2e8525d4f7c9ba5a635e"), looks := false }, kinds := [], alts := [], laidByText := true, laidKinds := [.data], laidTests := true, laidLooks := .later }
def TermErrorsCardSaid : Prop := Claim7.holds Tryd.pinned (.plain (OpenSpec.ofChange termErrorsSpec)) termErrorsCard

/-- THE TIED CARD OF 'tolllaw8.TermGrows'. -/
def termGrowsCard : Claim7 := { stood := { row := termGrowsRow, standIns := [], harness := (true, "6f3cf3f723c4d787e366fe3b0dfea3469388891acc0c2e8525d4f7c9ba5a635e"), looks := false }, kinds := [], alts := [], laidByText := true, laidKinds := [.data], laidTests := true, laidLooks := .later }
def TermGrowsCardSaid : Prop := Claim7.holds Tryd.pinned (.plain (OpenSpec.ofChange termGrowsSpec)) termGrowsCard

/-- THE SECOND FORM's CARD OF 'tolllaw8.TermBounds'. -/
def termBoundsUptoCard : Claim7 := { stood := { row := termBoundsUptoRow, standIns := [], harness := (true, "6f3cf3f723c4d787e366fe3b0dfea3469388891acc0c2e8525d4f7c9ba5a635e"), looks := false }, kinds := [], alts := [], laidByText := true, laidKinds := [.data], laidTests := true, laidLooks := .later }
def TermBoundsUptoCardSaid : Prop := Claim7.holds Tryd.pinned (.plain (OpenSpec.upto termBoundsSpec)) termBoundsUptoCard

/-- THE SECOND FORM's CARD OF 'tolllaw8.TermMonths'. -/
def termMonthsUptoCard : Claim7 := { stood := { row := termMonthsUptoRow, standIns := [], harness := (true, "6f3cf3f723c4d787e366fe3b0dfea3469388891acc0c2e8525d4f7c9ba5a635e"), looks := false }, kinds := [], alts := [], laidByText := true, laidKinds := [.data], laidTests := true, laidLooks := .later }
def TermMonthsUptoCardSaid : Prop := Claim7.holds Tryd.pinned (.plain (OpenSpec.upto termMonthsSpec)) termMonthsUptoCard

/-- THE SECOND FORM's CARD OF 'tolllaw8.TermShares'. -/
def termSharesUptoCard : Claim7 := { stood := { row := termSharesUptoRow, standIns := [], harness := (true, "6f3cf3f723c4d787e366fe3b0dfea3469388891acc0c2e8525d4f7c9ba5a635e"), looks := false }, kinds := [], alts := [], laidByText := true, laidKinds := [.data], laidTests := true, laidLooks := .later }
def TermSharesUptoCardSaid : Prop := Claim7.holds Tryd.pinned (.plain (OpenSpec.upto termSharesSpec)) termSharesUptoCard

/-- THE SECOND FORM's CARD OF 'tolllaw8.TermDays'. -/
def termDaysUptoCard : Claim7 := { stood := { row := termDaysUptoRow, standIns := [], harness := (true, "6f3cf3f723c4d787e366fe3b0dfea3469388891acc0c2e8525d4f7c9ba5a635e"), looks := false }, kinds := [], alts := [], laidByText := true, laidKinds := [.data], laidTests := true, laidLooks := .later }
def TermDaysUptoCardSaid : Prop := Claim7.holds Tryd.pinned (.plain (OpenSpec.upto termDaysSpec)) termDaysUptoCard

/-- THE SECOND FORM's CARD OF 'tolllaw8.TermErrors'. -/
def termErrorsUptoCard : Claim7 := { stood := { row := termErrorsUptoRow, standIns := [], harness := (true, "6f3cf3f723c4d787e366fe3b0dfea3469388891acc0c2e8525d4f7c9ba5a635e"), looks := false }, kinds := [], alts := [], laidByText := true, laidKinds := [.data], laidTests := true, laidLooks := .later }
def TermErrorsUptoCardSaid : Prop := Claim7.holds Tryd.pinned (.plain (OpenSpec.upto termErrorsSpec)) termErrorsUptoCard

/-- THE SECOND FORM's CARD OF 'tolllaw8.TermGrows'. -/
def termGrowsUptoCard : Claim7 := { stood := { row := termGrowsUptoRow, standIns := [], harness := (true, "6f3cf3f723c4d787e366fe3b0dfea3469388891acc0c2e8525d4f7c9ba5a635e"), looks := false }, kinds := [], alts := [], laidByText := true, laidKinds := [.data], laidTests := true, laidLooks := .later }
def TermGrowsUptoCardSaid : Prop := Claim7.holds Tryd.pinned (.plain (OpenSpec.upto termGrowsSpec)) termGrowsUptoCard
end Rows
end Go.Proofs.YtllbcbodfahidaaDoor
