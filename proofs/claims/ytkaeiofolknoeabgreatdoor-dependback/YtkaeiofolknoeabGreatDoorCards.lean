/-
  DERIVED. GIVEN WITH THE SEED: THE CARDS: each row of YtkaeiofolknoeabGreatDoorRows.lean that lists a variable, with what it lists TIED to the program's text (the seventh form; the later family's looks); each row that meets fmt, with fmt's text TOLD by the authors' own Lean function (tested against real Go, not proved from fmt's source: count such statements apart). THE CARD IS WHAT COUNTS. Prove the row's statement (the work); the ties are given (YtkaeiofolknoeabGreatDoorTie.lean); close each card by the builder's one call (the guide's Derived/Test/ToyasCard.lean, 'card_holds'). Laid BY PROGRAM, IN A SANDBOX (cutbox-door.mjs). By AI agents, Wed Nov 11 2026. No macro, syntax, notation, axiom, sorry.
-/
import Derived.Test.YtkaeiofolknoeabGreatDoorRows
import GoSem.ClaimSeven
namespace Go.Proofs.YtkaeiofolknoeabGreatDoor
namespace Rows

/-- THE TIED CARD OF 'stevedorelaw.DependReads'. -/
def dependReadsCard : Claim7 := { stood := { row := dependReadsRow, standIns := [], harness := (true, "d276312def975025076574d73de6034a699f6554eae099d93e85665be6576001"), looks := true }, kinds := [], alts := [], laidByText := true, laidKinds := [.data, .data, .data, .data, .handle, .data, .pinned], laidTests := true, laidLooks := .later }
def DependReadsCardSaid : Prop := Claim7.holds Tryz.pinned (.plain (OpenSpec.ofChange dependReadsSpec)) dependReadsCard

/-- THE TIED CARD OF 'stevedorekeep.DependBack'. -/
def dependBackCard : Claim7 := { stood := { row := dependBackRow, standIns := [], harness := (true, "d276312def975025076574d73de6034a699f6554eae099d93e85665be6576001"), looks := true }, kinds := [], alts := [], laidByText := true, laidKinds := [.data, .data, .data, .data, .data, .pinned], laidTests := true, laidLooks := .later }
def DependBackCardSaid : Prop := Claim7.holds Tryz.pinned (.plain (OpenSpec.ofChange dependBackSpec)) dependBackCard

/-- THE SECOND FORM's CARD OF 'stevedorelaw.DependReads'. -/
def dependReadsUptoCard : Claim7 := { stood := { row := dependReadsUptoRow, standIns := [], harness := (true, "d276312def975025076574d73de6034a699f6554eae099d93e85665be6576001"), looks := true }, kinds := [], alts := [], laidByText := true, laidKinds := [.data, .data, .data, .data, .handle, .data, .pinned], laidTests := true, laidLooks := .later }
def DependReadsUptoCardSaid : Prop := Claim7.holds Tryz.pinned (.plain (OpenSpec.upto dependReadsSpec)) dependReadsUptoCard

/-- THE SECOND FORM's CARD OF 'stevedorekeep.DependBack'. -/
def dependBackUptoCard : Claim7 := { stood := { row := dependBackUptoRow, standIns := [], harness := (true, "d276312def975025076574d73de6034a699f6554eae099d93e85665be6576001"), looks := true }, kinds := [], alts := [], laidByText := true, laidKinds := [.data, .data, .data, .data, .data, .pinned], laidTests := true, laidLooks := .later }
def DependBackUptoCardSaid : Prop := Claim7.holds Tryz.pinned (.plain (OpenSpec.upto dependBackSpec)) dependBackUptoCard
end Rows
end Go.Proofs.YtkaeiofolknoeabGreatDoor
