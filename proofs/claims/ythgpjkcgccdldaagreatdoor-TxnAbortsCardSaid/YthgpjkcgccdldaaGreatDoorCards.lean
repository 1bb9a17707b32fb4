/-
  DERIVED. GIVEN WITH THE SEED: THE CARDS: each row of YthgpjkcgccdldaaGreatDoorRows.lean that lists a variable, with what it lists TIED to the program's text (the seventh form; the later family's looks); each row that meets fmt, with fmt's text TOLD by the authors' own Lean function (tested against real Go, not proved from fmt's source: count such statements apart). THE CARD IS WHAT COUNTS. Prove the row's statement (the work); the ties are given (YthgpjkcgccdldaaGreatDoorTie.lean); close each card by the builder's one call (the guide's Derived/Test/ToyasCard.lean, 'card_holds'). Laid BY PROGRAM, IN A SANDBOX (cutbox-door.mjs). By AI agents, Wed Nov 11 2026. No macro, syntax, notation, axiom, sorry.
-/
import Derived.Test.YthgpjkcgccdldaaGreatDoorRows
import GoSem.ClaimSeven
namespace Go.Proofs.YthgpjkcgccdldaaGreatDoor
namespace Rows

/-- THE TIED CARD OF 'tolllaw5.TxnPlays'. -/
def txnPlaysCard : Claim7 := { stood := { row := txnPlaysRow, standIns := [], harness := (true, "14beae2bba7d807d023daf8843bc63808650f17bdd68a8750c0d125f89d3021c"), looks := true }, kinds := [], alts := [], laidByText := true, laidKinds := [.data], laidTests := true, laidLooks := .later }
def TxnPlaysCardSaid : Prop := Claim7.holds Tryz.pinned (.plain (OpenSpec.ofChange txnPlaysSpec)) txnPlaysCard

/-- THE TIED CARD OF 'tolllaw5.TxnCrashes'. -/
def txnCrashesCard : Claim7 := { stood := { row := txnCrashesRow, standIns := [], harness := (true, "14beae2bba7d807d023daf8843bc63808650f17bdd68a8750c0d125f89d3021c"), looks := true }, kinds := [], alts := [], laidByText := true, laidKinds := [.data], laidTests := true, laidLooks := .later }
def TxnCrashesCardSaid : Prop := Claim7.holds Tryz.pinned (.plain (OpenSpec.ofChange txnCrashesSpec)) txnCrashesCard

/-- THE TIED CARD OF 'tolllaw5.TxnEnds'. -/
def txnEndsCard : Claim7 := { stood := { row := txnEndsRow, standIns := [], harness := (true, "14beae2bba7d807d023daf8843bc63808650f17bdd68a8750c0d125f89d3021c"), looks := true }, kinds := [], alts := [], laidByText := true, laidKinds := [.data], laidTests := true, laidLooks := .later }
def TxnEndsCardSaid : Prop := Claim7.holds Tryz.pinned (.plain (OpenSpec.ofChange txnEndsSpec)) txnEndsCard

/-- THE TIED CARD OF 'tolllaw5.TxnViews'. -/
def txnViewsCard : Claim7 := { stood := { row := txnViewsRow, standIns := [], harness := (true, "14beae2bba7d807d023daf8843bc63808650f17bdd68a8750c0d125f89d3021c"), looks := true }, kinds := [], alts := [], laidByText := true, laidKinds := [.data], laidTests := true, laidLooks := .later }
def TxnViewsCardSaid : Prop := Claim7.holds Tryz.pinned (.plain (OpenSpec.ofChange txnViewsSpec)) txnViewsCard

/-- THE TIED CARD OF 'tolllaw5.TxnAborts'. -/
def txnAbortsCard : Claim7 := { stood := { row := txnAbortsRow, standIns := [], harness := (true, "14beae2bba7d807d023daf8843bc63808650f17bdd68a8750c0d125f89d3021c"), looks := true }, kinds := [], alts := [], laidByText := true, laidKinds := [.data], laidTests := true, laidLooks := .later }
def TxnAbortsCardSaid : Prop := Claim7.holds Tryz.pinned (.plain (OpenSpec.ofChange txnAbortsSpec)) txnAbortsCard

/-- THE SECOND FORM's CARD OF 'tolllaw5.TxnPlays'. -/
def txnPlaysUptoCard : Claim7 := { stood := { row := txnPlaysUptoRow, standIns := [], harness := (true, "14beae2bba7d807d023daf8843bc63808650f17bdd68a8750c0d125f89d3021c"), looks := true }, kinds := [], alts := [], laidByText := true, laidKinds := [.data], laidTests := true, laidLooks := .later }
def TxnPlaysUptoCardSaid : Prop := Claim7.holds Tryz.pinned (.plain (OpenSpec.upto txnPlaysSpec)) txnPlaysUptoCard

/-- THE SECOND FORM's CARD OF 'tolllaw5.TxnCrashes'. -/
def txnCrashesUptoCard : Claim7 := { stood := { row := txnCrashesUptoRow, standIns := [], harness := (true, "14beae2bba7d807d023daf8843bc63808650f17bdd68a8750c0d125f89d3021c"), looks := true }, kinds := [], alts := [], laidByText := true, laidKinds := [.data], laidTests := true, laidLooks := .later }
def TxnCrashesUptoCardSaid : Prop := Claim7.holds Tryz.pinned (.plain (OpenSpec.upto txnCrashesSpec)) txnCrashesUptoCard

/-- THE SECOND FORM's CARD OF 'tolllaw5.TxnEnds'. -/
def txnEndsUptoCard : Claim7 := { stood := { row := txnEndsUptoRow, standIns := [], harness := (true, "14beae2bba7d807d023daf8843bc63808650f17bdd68a8750c0d125f89d3021c"), looks := true }, kinds := [], alts := [], laidByText := true, laidKinds := [.data], laidTests := true, laidLooks := .later }
def TxnEndsUptoCardSaid : Prop := Claim7.holds Tryz.pinned (.plain (OpenSpec.upto txnEndsSpec)) txnEndsUptoCard

/-- THE SECOND FORM's CARD OF 'tolllaw5.TxnViews'. -/
def txnViewsUptoCard : Claim7 := { stood := { row := txnViewsUptoRow, standIns := [], harness := (true, "14beae2bba7d807d023daf8843bc63808650f17bdd68a8750c0d125f89d3021c"), looks := true }, kinds := [], alts := [], laidByText := true, laidKinds := [.data], laidTests := true, laidLooks := .later }
def TxnViewsUptoCardSaid : Prop := Claim7.holds Tryz.pinned (.plain (OpenSpec.upto txnViewsSpec)) txnViewsUptoCard

/-- THE SECOND FORM's CARD OF 'tolllaw5.TxnAborts'. -/
def txnAbortsUptoCard : Claim7 := { stood := { row := txnAbortsUptoRow, standIns := [], harness := (true, "14beae2bba7d807d023daf8843bc63808650f17bdd68a8750c0d125f89d3021c"), looks := true }, kinds := [], alts := [], laidByText := true, laidKinds := [.data], laidTests := true, laidLooks := .later }
def TxnAbortsUptoCardSaid : Prop := Claim7.holds Tryz.pinned (.plain (OpenSpec.upto txnAbortsSpec)) txnAbortsUptoCard
end Rows
end Go.Proofs.YthgpjkcgccdldaaGreatDoor
