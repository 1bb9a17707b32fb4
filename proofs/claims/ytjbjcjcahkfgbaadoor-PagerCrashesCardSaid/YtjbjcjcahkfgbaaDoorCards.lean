/-
  DERIVED. GIVEN WITH THE SEED: THE CARDS: each row of YtjbjcjcahkfgbaaDoorRows.lean that lists a variable, with what it lists TIED to the program's text (the seventh form; the later family's looks); each row that meets fmt, with fmt's text TOLD by the authors' own Lean function (tested against real Go, not proved from fmt's source: count such statements apart). THE CARD IS WHAT COUNTS. Prove the row's statement (the work); the ties are given (YtjbjcjcahkfgbaaDoorTie.lean); close each card by the builder's one call (the guide's Derived/Test/ToyasCard.lean, 'card_holds'). Laid BY PROGRAM, IN A SANDBOX (cutbox-door.mjs). By AI agents, Wed Nov 11 2026. No macro, syntax, notation, axiom, sorry.
-/
import Derived.Test.YtjbjcjcahkfgbaaDoorRows
import GoSem.ClaimSeven
namespace Go.Proofs.YtjbjcjcahkfgbaaDoor
namespace Rows

/-- THE TIED CARD OF 'tolllaw3.PagerPlays'. -/
def pagerPlaysCard : Claim7 := { stood := { row := pagerPlaysRow, standIns := [], harness := (true, "8c0736183fc3bf6e02de1eaf6172194eac3562de0a716b1c324b920d4a494222"), looks := false }, kinds := [], alts := [], laidByText := true, laidKinds := [.data], laidTests := true, laidLooks := .later }
def PagerPlaysCardSaid : Prop := Claim7.holds Tryd.pinned (.plain (OpenSpec.ofChange pagerPlaysSpec)) pagerPlaysCard

/-- THE TIED CARD OF 'tolllaw3.PagerCrashes'. -/
def pagerCrashesCard : Claim7 := { stood := { row := pagerCrashesRow, standIns := [], harness := (true, "8c0736183fc3bf6e02de1eaf6172194eac3562de0a716b1c324b920d4a494222"), looks := false }, kinds := [], alts := [], laidByText := true, laidKinds := [.data], laidTests := true, laidLooks := .later }
def PagerCrashesCardSaid : Prop := Claim7.holds Tryd.pinned (.plain (OpenSpec.ofChange pagerCrashesSpec)) pagerCrashesCard

/-- THE TIED CARD OF 'tolllaw3.PagerFull'. -/
def pagerFullCard : Claim7 := { stood := { row := pagerFullRow, standIns := [], harness := (true, "8c0736183fc3bf6e02de1eaf6172194eac3562de0a716b1c324b920d4a494222"), looks := false }, kinds := [], alts := [], laidByText := true, laidKinds := [.data], laidTests := true, laidLooks := .later }
def PagerFullCardSaid : Prop := Claim7.holds Tryd.pinned (.plain (OpenSpec.ofChange pagerFullSpec)) pagerFullCard

/-- THE TIED CARD OF 'tolllaw3.PagerSmall'. -/
def pagerSmallCard : Claim7 := { stood := { row := pagerSmallRow, standIns := [], harness := (true, "8c0736183fc3bf6e02de1eaf6172194eac3562de0a716b1c324b920d4a494222"), looks := false }, kinds := [], alts := [], laidByText := true, laidKinds := [.data], laidTests := true, laidLooks := .later }
def PagerSmallCardSaid : Prop := Claim7.holds Tryd.pinned (.plain (OpenSpec.ofChange pagerSmallSpec)) pagerSmallCard

/-- THE TIED CARD OF 'tolllaw3.PagerOwn'. -/
def pagerOwnCard : Claim7 := { stood := { row := pagerOwnRow, standIns := [], harness := (true, "8c0736183fc3bf6e02de1eaf6172194eac3562de0a716b1c324b920d4a494222"), looks := false }, kinds := [], alts := [], laidByText := true, laidKinds := [.data], laidTests := true, laidLooks := .later }
def PagerOwnCardSaid : Prop := Claim7.holds Tryd.pinned (.plain (OpenSpec.ofChange pagerOwnSpec)) pagerOwnCard

/-- THE TIED CARD OF 'tolllaw3.PagerCommits'. -/
def pagerCommitsCard : Claim7 := { stood := { row := pagerCommitsRow, standIns := [], harness := (true, "8c0736183fc3bf6e02de1eaf6172194eac3562de0a716b1c324b920d4a494222"), looks := false }, kinds := [], alts := [], laidByText := true, laidKinds := [.data], laidTests := true, laidLooks := .later }
def PagerCommitsCardSaid : Prop := Claim7.holds Tryd.pinned (.plain (OpenSpec.ofChange pagerCommitsSpec)) pagerCommitsCard

/-- THE SECOND FORM's CARD OF 'tolllaw3.PagerPlays'. -/
def pagerPlaysUptoCard : Claim7 := { stood := { row := pagerPlaysUptoRow, standIns := [], harness := (true, "8c0736183fc3bf6e02de1eaf6172194eac3562de0a716b1c324b920d4a494222"), looks := false }, kinds := [], alts := [], laidByText := true, laidKinds := [.data], laidTests := true, laidLooks := .later }
def PagerPlaysUptoCardSaid : Prop := Claim7.holds Tryd.pinned (.plain (OpenSpec.upto pagerPlaysSpec)) pagerPlaysUptoCard

/-- THE SECOND FORM's CARD OF 'tolllaw3.PagerCrashes'. -/
def pagerCrashesUptoCard : Claim7 := { stood := { row := pagerCrashesUptoRow, standIns := [], harness := (true, "8c0736183fc3bf6e02de1eaf6172194eac3562de0a716b1c324b920d4a494222"), looks := false }, kinds := [], alts := [], laidByText := true, laidKinds := [.data], laidTests := true, laidLooks := .later }
def PagerCrashesUptoCardSaid : Prop := Claim7.holds Tryd.pinned (.plain (OpenSpec.upto pagerCrashesSpec)) pagerCrashesUptoCard

/-- THE SECOND FORM's CARD OF 'tolllaw3.PagerFull'. -/
def pagerFullUptoCard : Claim7 := { stood := { row := pagerFullUptoRow, standIns := [], harness := (true, "8c0736183fc3bf6e02de1eaf6172194eac3562de0a716b1c324b920d4a494222"), looks := false }, kinds := [], alts := [], laidByText := true, laidKinds := [.data], laidTests := true, laidLooks := .later }
def PagerFullUptoCardSaid : Prop := Claim7.holds Tryd.pinned (.plain (OpenSpec.upto pagerFullSpec)) pagerFullUptoCard

/-- THE SECOND FORM's CARD OF 'tolllaw3.PagerSmall'. -/
def pagerSmallUptoCard : Claim7 := { stood := { row := pagerSmallUptoRow, standIns := [], harness := (true, "8c0736183fc3bf6e02de1eaf6172194eac3562de0a716b1c324b920d4a494222"), looks := false }, kinds := [], alts := [], laidByText := true, laidKinds := [.data], laidTests := true, laidLooks := .later }
def PagerSmallUptoCardSaid : Prop := Claim7.holds Tryd.pinned (.plain (OpenSpec.upto pagerSmallSpec)) pagerSmallUptoCard

/-- THE SECOND FORM's CARD OF 'tolllaw3.PagerOwn'. -/
def pagerOwnUptoCard : Claim7 := { stood := { row := pagerOwnUptoRow, standIns := [], harness := (true, "8c0736183fc3bf6e02de1eaf6172194eac3562de0a716b1c324b920d4a494222"), looks := false }, kinds := [], alts := [], laidByText := true, laidKinds := [.data], laidTests := true, laidLooks := .later }
def PagerOwnUptoCardSaid : Prop := Claim7.holds Tryd.pinned (.plain (OpenSpec.upto pagerOwnSpec)) pagerOwnUptoCard

/-- THE SECOND FORM's CARD OF 'tolllaw3.PagerCommits'. -/
def pagerCommitsUptoCard : Claim7 := { stood := { row := pagerCommitsUptoRow, standIns := [], harness := (true, "8c0736183fc3bf6e02de1eaf6172194eac3562de0a716b1c324b920d4a494222"), looks := false }, kinds := [], alts := [], laidByText := true, laidKinds := [.data], laidTests := true, laidLooks := .later }
def PagerCommitsUptoCardSaid : Prop := Claim7.holds Tryd.pinned (.plain (OpenSpec.upto pagerCommitsSpec)) pagerCommitsUptoCard
end Rows
end Go.Proofs.YtjbjcjcahkfgbaaDoor
