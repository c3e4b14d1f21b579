/-
  DERIVED. GIVEN WITH THE SEED: THE CARDS: each row of YthijccmiemlilaaGreatDoorRows.lean that lists a variable, with what it lists TIED to the program's text (the seventh form; the later family's looks); each row that meets fmt, with fmt's text TOLD by the authors' own Lean function (tested against real Go, not proved from fmt's source: count such statements apart). THE CARD IS WHAT COUNTS. Prove the row's statement (the work); the ties are given (YthijccmiemlilaaGreatDoorTie.lean); close each card by the builder's one call (the guide's Derived/Test/ToyasCard.lean, 'card_holds'). Laid BY PROGRAM, IN A SANDBOX (cutbox-door.mjs). By AI agents, Wed Nov 11 2026. No macro, syntax, notation, axiom, sorry.
-/
import Derived.Test.YthijccmiemlilaaGreatDoorRows
import GoSem.ClaimSeven
namespace Go.Proofs.YthijccmiemlilaaGreatDoor
namespace Rows

/-- THE TIED CARD OF 'stevedorelaw.CheckJudges'. -/
def checkJudgesCard : Claim7 := { stood := { row := checkJudgesRow, standIns := [], harness := (true, "73cb8cf8a544c781a679dce24507e0df2a561ed5fd5f8b89ad597bbab1d90f68"), looks := true }, kinds := [], alts := [], laidByText := true, laidKinds := [.data, .handle, .data, .data, .data, .pinned], laidTests := true, laidLooks := .later }
def CheckJudgesCardSaid : Prop := Claim7.holds Tryz.pinned (.plain (OpenSpec.ofChange checkJudgesSpec)) checkJudgesCard

/-- THE TIED CARD OF 'stevedorelaw.CheckLines'. -/
def checkLinesCard : Claim7 := { stood := { row := checkLinesRow, standIns := [], harness := (true, "73cb8cf8a544c781a679dce24507e0df2a561ed5fd5f8b89ad597bbab1d90f68"), looks := true }, kinds := [], alts := [], laidByText := true, laidKinds := [.data, .data, .data, .data, .pinned], laidTests := true, laidLooks := .later }
def CheckLinesCardSaid : Prop := Claim7.holds Tryz.pinned (.plain (OpenSpec.ofChange checkLinesSpec)) checkLinesCard

/-- THE TIED CARD OF 'stevedorekeep.CheckSpares'. -/
def checkSparesCard : Claim7 := { stood := { row := checkSparesRow, standIns := [], harness := (true, "73cb8cf8a544c781a679dce24507e0df2a561ed5fd5f8b89ad597bbab1d90f68"), looks := true }, kinds := [], alts := [], laidByText := true, laidKinds := [.data, .data, .data, .data, .handle, .data, .pinned], laidTests := true, laidLooks := .later }
def CheckSparesCardSaid : Prop := Claim7.holds Tryz.pinned (.plain (OpenSpec.ofChange checkSparesSpec)) checkSparesCard

/-- THE SECOND FORM's CARD OF 'stevedorelaw.CheckJudges'. -/
def checkJudgesUptoCard : Claim7 := { stood := { row := checkJudgesUptoRow, standIns := [], harness := (true, "73cb8cf8a544c781a679dce24507e0df2a561ed5fd5f8b89ad597bbab1d90f68"), looks := true }, kinds := [], alts := [], laidByText := true, laidKinds := [.data, .handle, .data, .data, .data, .pinned], laidTests := true, laidLooks := .later }
def CheckJudgesUptoCardSaid : Prop := Claim7.holds Tryz.pinned (.plain (OpenSpec.upto checkJudgesSpec)) checkJudgesUptoCard

/-- THE SECOND FORM's CARD OF 'stevedorelaw.CheckLines'. -/
def checkLinesUptoCard : Claim7 := { stood := { row := checkLinesUptoRow, standIns := [], harness := (true, "73cb8cf8a544c781a679dce24507e0df2a561ed5fd5f8b89ad597bbab1d90f68"), looks := true }, kinds := [], alts := [], laidByText := true, laidKinds := [.data, .data, .data, .data, .pinned], laidTests := true, laidLooks := .later }
def CheckLinesUptoCardSaid : Prop := Claim7.holds Tryz.pinned (.plain (OpenSpec.upto checkLinesSpec)) checkLinesUptoCard

/-- THE SECOND FORM's CARD OF 'stevedorekeep.CheckSpares'. -/
def checkSparesUptoCard : Claim7 := { stood := { row := checkSparesUptoRow, standIns := [], harness := (true, "73cb8cf8a544c781a679dce24507e0df2a561ed5fd5f8b89ad597bbab1d90f68"), looks := true }, kinds := [], alts := [], laidByText := true, laidKinds := [.data, .data, .data, .data, .handle, .data, .pinned], laidTests := true, laidLooks := .later }
def CheckSparesUptoCardSaid : Prop := Claim7.holds Tryz.pinned (.plain (OpenSpec.upto checkSparesSpec)) checkSparesUptoCard
end Rows
end Go.Proofs.YthijccmiemlilaaGreatDoor
