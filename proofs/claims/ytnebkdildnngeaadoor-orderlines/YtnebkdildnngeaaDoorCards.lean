/-
  DERIVED. GIVEN WITH THE SEED: THE CARDS: each row of YtnebkdildnngeaaDoorRows.lean that lists a variable, with what it lists TIED to the program's text (the seventh form; the later family's looks); each row that meets fmt, with fmt's text TOLD by the authors' own Lean function (tested against real Go, not proved from fmt's source: count such statements apart). THE CARD IS WHAT COUNTS. Prove the row's statement (the work); the ties are given (YtnebkdildnngeaaDoorTie.lean); close each card by the builder's one call (the guide's Derived/Test/ToyasCard.lean, 'card_holds'). Laid BY PROGRAM, IN A SANDBOX (cutbox-door.mjs). By AI agents, Wed Nov 11 2026. No macro, syntax, notation, axiom, sorry.
-/
import Derived.Test.YtnebkdildnngeaaDoorRows
import GoSem.ClaimSeven
namespace Go.Proofs.YtnebkdildnngeaaDoor
namespace Rows

/-- THE TIED CARD OF 'stevedorelaw.OrderRings'. -/
def orderRingsCard : Claim7 := { stood := { row := orderRingsRow, standIns := [], harness := (true, "4002ae6a5d43241b31a8f1d9e84c42c27842d83b565054bd2eb2b504122975fb"), looks := true }, kinds := [], alts := [], laidByText := true, laidKinds := [.handle, .data], laidTests := true, laidLooks := .later }
def OrderRingsCardSaid : Prop := Claim7.holds Tryd.pinned (.plain (OpenSpec.ofChange orderRingsSpec)) orderRingsCard

/-- THE TIED CARD OF 'stevedorelaw.OrderLines'. -/
def orderLinesCard : Claim7 := { stood := { row := orderLinesRow, standIns := [], harness := (true, "4002ae6a5d43241b31a8f1d9e84c42c27842d83b565054bd2eb2b504122975fb"), looks := true }, kinds := [], alts := [], laidByText := true, laidKinds := [.handle, .data], laidTests := true, laidLooks := .later }
def OrderLinesCardSaid : Prop := Claim7.holds Tryd.pinned (.plain (OpenSpec.ofChange orderLinesSpec)) orderLinesCard

/-- THE SECOND FORM's CARD OF 'stevedorelaw.OrderRings'. -/
def orderRingsUptoCard : Claim7 := { stood := { row := orderRingsUptoRow, standIns := [], harness := (true, "4002ae6a5d43241b31a8f1d9e84c42c27842d83b565054bd2eb2b504122975fb"), looks := true }, kinds := [], alts := [], laidByText := true, laidKinds := [.handle, .data], laidTests := true, laidLooks := .later }
def OrderRingsUptoCardSaid : Prop := Claim7.holds Tryd.pinned (.plain (OpenSpec.upto orderRingsSpec)) orderRingsUptoCard

/-- THE SECOND FORM's CARD OF 'stevedorelaw.OrderLines'. -/
def orderLinesUptoCard : Claim7 := { stood := { row := orderLinesUptoRow, standIns := [], harness := (true, "4002ae6a5d43241b31a8f1d9e84c42c27842d83b565054bd2eb2b504122975fb"), looks := true }, kinds := [], alts := [], laidByText := true, laidKinds := [.handle, .data], laidTests := true, laidLooks := .later }
def OrderLinesUptoCardSaid : Prop := Claim7.holds Tryd.pinned (.plain (OpenSpec.upto orderLinesSpec)) orderLinesUptoCard
end Rows
end Go.Proofs.YtnebkdildnngeaaDoor
