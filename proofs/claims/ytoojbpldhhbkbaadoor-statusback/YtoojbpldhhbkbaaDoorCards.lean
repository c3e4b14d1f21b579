/-
  DERIVED. GIVEN WITH THE SEED: THE CARDS: each row of YtoojbpldhhbkbaaDoorRows.lean that lists a variable, with what it lists TIED to the program's text (the seventh form; the later family's looks); each row that meets fmt, with fmt's text TOLD by the authors' own Lean function (tested against real Go, not proved from fmt's source: count such statements apart). THE CARD IS WHAT COUNTS. Prove the row's statement (the work); the ties are given (YtoojbpldhhbkbaaDoorTie.lean); close each card by the builder's one call (the guide's Derived/Test/ToyasCard.lean, 'card_holds'). Laid BY PROGRAM, IN A SANDBOX (cutbox-door.mjs). By AI agents, Wed Nov 11 2026. No macro, syntax, notation, axiom, sorry.
-/
import Derived.Test.YtoojbpldhhbkbaaDoorRows
import GoSem.ClaimSeven
namespace Go.Proofs.YtoojbpldhhbkbaaDoor
namespace Rows

/-- THE TIED CARD OF 'stevedorelaw.StatusNext'. -/
def statusNextCard : Claim7 := { stood := { row := statusNextRow, standIns := [], harness := (true, "c6b2b28cdd79b20516b9b8209431c2065b42732c18966326721060c3e67cf7e2"), looks := true }, kinds := [], alts := [], laidByText := true, laidKinds := [.handle, .data, .data], laidTests := true, laidLooks := .later }
def StatusNextCardSaid : Prop := Claim7.holds Tryd.pinned (.plain (OpenSpec.ofChange statusNextSpec)) statusNextCard

/-- THE TIED CARD OF 'stevedorekeep.StatusBack'. -/
def statusBackCard : Claim7 := { stood := { row := statusBackRow, standIns := [], harness := (true, "c6b2b28cdd79b20516b9b8209431c2065b42732c18966326721060c3e67cf7e2"), looks := true }, kinds := [], alts := [], laidByText := true, laidKinds := [.data, .data, .data, .data, .sentinel, .sentinel, .data, .pinned], laidTests := true, laidLooks := .later }
def StatusBackCardSaid : Prop := Claim7.holds Tryd.pinned (.plain (OpenSpec.ofChange statusBackSpec)) statusBackCard

/-- THE SECOND FORM's CARD OF 'stevedorelaw.StatusNext'. -/
def statusNextUptoCard : Claim7 := { stood := { row := statusNextUptoRow, standIns := [], harness := (true, "c6b2b28cdd79b20516b9b8209431c2065b42732c18966326721060c3e67cf7e2"), looks := true }, kinds := [], alts := [], laidByText := true, laidKinds := [.handle, .data, .data], laidTests := true, laidLooks := .later }
def StatusNextUptoCardSaid : Prop := Claim7.holds Tryd.pinned (.plain (OpenSpec.upto statusNextSpec)) statusNextUptoCard

/-- THE SECOND FORM's CARD OF 'stevedorekeep.StatusBack'. -/
def statusBackUptoCard : Claim7 := { stood := { row := statusBackUptoRow, standIns := [], harness := (true, "c6b2b28cdd79b20516b9b8209431c2065b42732c18966326721060c3e67cf7e2"), looks := true }, kinds := [], alts := [], laidByText := true, laidKinds := [.data, .data, .data, .data, .sentinel, .sentinel, .data, .pinned], laidTests := true, laidLooks := .later }
def StatusBackUptoCardSaid : Prop := Claim7.holds Tryd.pinned (.plain (OpenSpec.upto statusBackSpec)) statusBackUptoCard
end Rows
end Go.Proofs.YtoojbpldhhbkbaaDoor
