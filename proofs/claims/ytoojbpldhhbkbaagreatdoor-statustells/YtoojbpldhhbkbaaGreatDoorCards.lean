/-
  DERIVED. GIVEN WITH THE SEED: THE CARDS: each row of YtoojbpldhhbkbaaGreatDoorRows.lean that lists a variable, with what it lists TIED to the program's text (the seventh form; the later family's looks); each row that meets fmt, with fmt's text TOLD by the authors' own Lean function (tested against real Go, not proved from fmt's source: count such statements apart). THE CARD IS WHAT COUNTS. Prove the row's statement (the work); the ties are given (YtoojbpldhhbkbaaGreatDoorTie.lean); close each card by the builder's one call (the guide's Derived/Test/ToyasCard.lean, 'card_holds'). Laid BY PROGRAM, IN A SANDBOX (cutbox-door.mjs). By AI agents, Wed Nov 11 2026. No macro, syntax, notation, axiom, sorry.
-/
import Derived.Test.YtoojbpldhhbkbaaGreatDoorRows
import GoSem.ClaimSeven
namespace Go.Proofs.YtoojbpldhhbkbaaGreatDoor
namespace Rows

/-- THE TIED CARD OF 'stevedorelaw.StatusTells'. -/
def statusTellsCard : Claim7 := { stood := { row := statusTellsRow, standIns := [], harness := (true, "efd8947f4a612386b57977415b34499c90be87b0ab5a630e81fcb809be22e5f4"), looks := true }, kinds := [], alts := [], laidByText := true, laidKinds := [.data, .data, .data, .data, .handle, .sentinel, .sentinel, .pinned], laidTests := true, laidLooks := .later }
def StatusTellsCardSaid : Prop := Claim7.holds Tryz.pinned (.plain (OpenSpec.ofChange statusTellsSpec)) statusTellsCard

/-- THE SECOND FORM's CARD OF 'stevedorelaw.StatusTells'. -/
def statusTellsUptoCard : Claim7 := { stood := { row := statusTellsUptoRow, standIns := [], harness := (true, "efd8947f4a612386b57977415b34499c90be87b0ab5a630e81fcb809be22e5f4"), looks := true }, kinds := [], alts := [], laidByText := true, laidKinds := [.data, .data, .data, .data, .handle, .sentinel, .sentinel, .pinned], laidTests := true, laidLooks := .later }
def StatusTellsUptoCardSaid : Prop := Claim7.holds Tryz.pinned (.plain (OpenSpec.upto statusTellsSpec)) statusTellsUptoCard
end Rows
end Go.Proofs.YtoojbpldhhbkbaaGreatDoor
