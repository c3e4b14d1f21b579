/-
  DERIVED. GIVEN WITH THE SEED: THE CARDS: each row of YtlldfmnoidndmaaGreatDoorRows.lean that lists a variable, with what it lists TIED to the program's text (the seventh form; the later family's looks); each row that meets fmt, with fmt's text TOLD by the authors' own Lean function (tested against real Go, not proved from fmt's source: count such statements apart). THE CARD IS WHAT COUNTS. Prove the row's statement (the work); the ties are given (YtlldfmnoidndmaaGreatDoorTie.lean); close each card by the builder's one call (the guide's Derived/Test/ToyasCard.lean, 'card_holds'). Laid BY PROGRAM, IN A SANDBOX (cutbox-door.mjs). By AI agents, Wed Nov 11 2026. No macro, syntax, notation, axiom, sorry.
-/
import Derived.Test.YtlldfmnoidndmaaGreatDoorRows
import GoSem.ClaimSeven
namespace Go.Proofs.YtlldfmnoidndmaaGreatDoor
namespace Rows

/-- THE TIED CARD OF 'stevedorelaw.ShelfPlays'. -/
def shelfPlaysCard : Claim7 := { stood := { row := shelfPlaysRow, standIns := [], harness := (true, "477ca897edef1da54b032a3baa81dfadc52c04c15271fc12e7680ffb6186deab"), looks := true }, kinds := [], alts := [], laidByText := true, laidKinds := [.data, .data, .data, .handle, .data], laidTests := true, laidLooks := .later }
def ShelfPlaysCardSaid : Prop := Claim7.holds Tryz.pinned (.plain (OpenSpec.ofChange shelfPlaysSpec)) shelfPlaysCard

/-- THE TIED CARD OF 'stevedorekeep.ShelfOwns'. -/
def shelfOwnsCard : Claim7 := { stood := { row := shelfOwnsRow, standIns := [], harness := (true, "477ca897edef1da54b032a3baa81dfadc52c04c15271fc12e7680ffb6186deab"), looks := true }, kinds := [], alts := [], laidByText := true, laidKinds := [.data, .data, .data], laidTests := true, laidLooks := .later }
def ShelfOwnsCardSaid : Prop := Claim7.holds Tryz.pinned (.plain (OpenSpec.ofChange shelfOwnsSpec)) shelfOwnsCard

/-- THE TIED CARD OF 'stevedorekeep.ShelfSettings'. -/
def shelfSettingsCard : Claim7 := { stood := { row := shelfSettingsRow, standIns := [], harness := (true, "477ca897edef1da54b032a3baa81dfadc52c04c15271fc12e7680ffb6186deab"), looks := true }, kinds := [], alts := [], laidByText := true, laidKinds := [.data, .data, .data], laidTests := true, laidLooks := .later }
def ShelfSettingsCardSaid : Prop := Claim7.holds Tryz.pinned (.plain (OpenSpec.ofChange shelfSettingsSpec)) shelfSettingsCard

/-- THE SECOND FORM's CARD OF 'stevedorelaw.ShelfPlays'. -/
def shelfPlaysUptoCard : Claim7 := { stood := { row := shelfPlaysUptoRow, standIns := [], harness := (true, "477ca897edef1da54b032a3baa81dfadc52c04c15271fc12e7680ffb6186deab"), looks := true }, kinds := [], alts := [], laidByText := true, laidKinds := [.data, .data, .data, .handle, .data], laidTests := true, laidLooks := .later }
def ShelfPlaysUptoCardSaid : Prop := Claim7.holds Tryz.pinned (.plain (OpenSpec.upto shelfPlaysSpec)) shelfPlaysUptoCard

/-- THE SECOND FORM's CARD OF 'stevedorekeep.ShelfOwns'. -/
def shelfOwnsUptoCard : Claim7 := { stood := { row := shelfOwnsUptoRow, standIns := [], harness := (true, "477ca897edef1da54b032a3baa81dfadc52c04c15271fc12e7680ffb6186deab"), looks := true }, kinds := [], alts := [], laidByText := true, laidKinds := [.data, .data, .data], laidTests := true, laidLooks := .later }
def ShelfOwnsUptoCardSaid : Prop := Claim7.holds Tryz.pinned (.plain (OpenSpec.upto shelfOwnsSpec)) shelfOwnsUptoCard

/-- THE SECOND FORM's CARD OF 'stevedorekeep.ShelfSettings'. -/
def shelfSettingsUptoCard : Claim7 := { stood := { row := shelfSettingsUptoRow, standIns := [], harness := (true, "477ca897edef1da54b032a3baa81dfadc52c04c15271fc12e7680ffb6186deab"), looks := true }, kinds := [], alts := [], laidByText := true, laidKinds := [.data, .data, .data], laidTests := true, laidLooks := .later }
def ShelfSettingsUptoCardSaid : Prop := Claim7.holds Tryz.pinned (.plain (OpenSpec.upto shelfSettingsSpec)) shelfSettingsUptoCard
end Rows
end Go.Proofs.YtlldfmnoidndmaaGreatDoor
