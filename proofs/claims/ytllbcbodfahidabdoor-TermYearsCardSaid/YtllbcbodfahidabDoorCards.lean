/-
  DERIVED. GIVEN WITH THE SEED: THE CARDS: each row of YtllbcbodfahidabDoorRows.lean that lists a variable, with what it lists TIED to the program's text (the seventh form; the later family's looks); each row that meets fmt, with fmt's text TOLD by the authors' own Lean function (tested against real Go, not proved from fmt's source: count such statements apart). THE CARD IS WHAT COUNTS. Prove the row's statement (the work); the ties are given (YtllbcbodfahidabDoorTie.lean); close each card by the builder's one call (the guide's Derived/Test/ToyasCard.lean, 'card_holds'). Laid BY PROGRAM, IN A SANDBOX (cutbox-door.mjs). By AI agents, Wed Nov 11 2026. No macro, syntax, notation, axiom, sorry.
-/
import Derived.Test.YtllbcbodfahidabDoorRows
import GoSem.ClaimSeven
namespace Go.Proofs.YtllbcbodfahidabDoor
namespace Rows

/-- THE TIED CARD OF 'tolllaw8.TermYears'. -/
def termYearsCard : Claim7 := { stood := { row := termYearsRow, standIns := [], harness := (true, "3a63718f8abee559d0dda889ff5b12dad6edafd186c56dfe310f9f53e53e0877"), looks := false }, kinds := [], alts := [], laidByText := true, laidKinds := [.data], laidTests := true, laidLooks := .later }
def TermYearsCardSaid : Prop := Claim7.holds Tryd.pinned (.plain (OpenSpec.ofChange termYearsSpec)) termYearsCard

/-- THE SECOND FORM's CARD OF 'tolllaw8.TermYears'. -/
def termYearsUptoCard : Claim7 := { stood := { row := termYearsUptoRow, standIns := [], harness := (true, "3a63718f8abee559d0dda889ff5b12dad6edafd186c56dfe310f9f53e53e0877"), looks := false }, kinds := [], alts := [], laidByText := true, laidKinds := [.data], laidTests := true, laidLooks := .later }
def TermYearsUptoCardSaid : Prop := Claim7.holds Tryd.pinned (.plain (OpenSpec.upto termYearsSpec)) termYearsUptoCard
end Rows
end Go.Proofs.YtllbcbodfahidabDoor
