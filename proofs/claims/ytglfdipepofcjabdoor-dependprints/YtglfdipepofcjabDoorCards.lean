/-
  DERIVED. GIVEN WITH THE SEED: THE CARDS: each row of YtglfdipepofcjabDoorRows.lean that lists a variable, with what it lists TIED to the program's text (the seventh form; the later family's looks); each row that meets fmt, with fmt's text TOLD by the authors' own Lean function (tested against real Go, not proved from fmt's source: count such statements apart). THE CARD IS WHAT COUNTS. Prove the row's statement (the work); the ties are given (YtglfdipepofcjabDoorTie.lean); close each card by the builder's one call (the guide's Derived/Test/ToyasCard.lean, 'card_holds'). Laid BY PROGRAM, IN A SANDBOX (cutbox-door.mjs). By AI agents, Wed Nov 11 2026. No macro, syntax, notation, axiom, sorry.
-/
import Derived.Test.YtglfdipepofcjabDoorRows
import GoSem.ClaimSeven
namespace Go.Proofs.YtglfdipepofcjabDoor
namespace Rows

/-- THE TIED CARD OF 'stevedorekeep.StanzaBack'. -/
def stanzaBackCard : Claim7 := { stood := { row := stanzaBackRow, standIns := [], harness := (true, "914a79f77d8ae750d08d74bdb1fc537324f19306e55f9cfc37195e834d134a8f"), looks := true }, kinds := [], alts := [], laidByText := true, laidKinds := [.data, .pinned, .pinned], laidTests := true, laidLooks := .later }
def StanzaBackCardSaid : Prop := Claim7.holds Tryd.pinned (.plain (OpenSpec.ofChange stanzaBackSpec)) stanzaBackCard

/-- THE TIED CARD OF 'stevedorelaw.DependPrints'. -/
def dependPrintsCard : Claim7 := { stood := { row := dependPrintsRow, standIns := [], harness := (true, "914a79f77d8ae750d08d74bdb1fc537324f19306e55f9cfc37195e834d134a8f"), looks := true }, kinds := [], alts := [], laidByText := true, laidKinds := [.data, .data, .data, .handle, .data], laidTests := true, laidLooks := .later }
def DependPrintsCardSaid : Prop := Claim7.holds Tryd.pinned (.plain (OpenSpec.ofChange dependPrintsSpec)) dependPrintsCard

/-- THE TIED CARD OF 'stevedorelaw.DependMeets'. -/
def dependMeetsCard : Claim7 := { stood := { row := dependMeetsRow, standIns := [], harness := (true, "914a79f77d8ae750d08d74bdb1fc537324f19306e55f9cfc37195e834d134a8f"), looks := true }, kinds := [], alts := [], laidByText := true, laidKinds := [.data, .pinned], laidTests := true, laidLooks := .later }
def DependMeetsCardSaid : Prop := Claim7.holds Tryd.pinned (.plain (OpenSpec.ofChange dependMeetsSpec)) dependMeetsCard

/-- THE TIED CARD OF 'stevedorekeep.DependGrows'. -/
def dependGrowsCard : Claim7 := { stood := { row := dependGrowsRow, standIns := [], harness := (true, "914a79f77d8ae750d08d74bdb1fc537324f19306e55f9cfc37195e834d134a8f"), looks := true }, kinds := [], alts := [], laidByText := true, laidKinds := [.data, .data, .data, .data, .data, .pinned], laidTests := true, laidLooks := .later }
def DependGrowsCardSaid : Prop := Claim7.holds Tryd.pinned (.plain (OpenSpec.ofChange dependGrowsSpec)) dependGrowsCard

/-- THE SECOND FORM's CARD OF 'stevedorekeep.StanzaBack'. -/
def stanzaBackUptoCard : Claim7 := { stood := { row := stanzaBackUptoRow, standIns := [], harness := (true, "914a79f77d8ae750d08d74bdb1fc537324f19306e55f9cfc37195e834d134a8f"), looks := true }, kinds := [], alts := [], laidByText := true, laidKinds := [.data, .pinned, .pinned], laidTests := true, laidLooks := .later }
def StanzaBackUptoCardSaid : Prop := Claim7.holds Tryd.pinned (.plain (OpenSpec.upto stanzaBackSpec)) stanzaBackUptoCard

/-- THE SECOND FORM's CARD OF 'stevedorelaw.DependPrints'. -/
def dependPrintsUptoCard : Claim7 := { stood := { row := dependPrintsUptoRow, standIns := [], harness := (true, "914a79f77d8ae750d08d74bdb1fc537324f19306e55f9cfc37195e834d134a8f"), looks := true }, kinds := [], alts := [], laidByText := true, laidKinds := [.data, .data, .data, .handle, .data], laidTests := true, laidLooks := .later }
def DependPrintsUptoCardSaid : Prop := Claim7.holds Tryd.pinned (.plain (OpenSpec.upto dependPrintsSpec)) dependPrintsUptoCard

/-- THE SECOND FORM's CARD OF 'stevedorelaw.DependMeets'. -/
def dependMeetsUptoCard : Claim7 := { stood := { row := dependMeetsUptoRow, standIns := [], harness := (true, "914a79f77d8ae750d08d74bdb1fc537324f19306e55f9cfc37195e834d134a8f"), looks := true }, kinds := [], alts := [], laidByText := true, laidKinds := [.data, .pinned], laidTests := true, laidLooks := .later }
def DependMeetsUptoCardSaid : Prop := Claim7.holds Tryd.pinned (.plain (OpenSpec.upto dependMeetsSpec)) dependMeetsUptoCard

/-- THE SECOND FORM's CARD OF 'stevedorekeep.DependGrows'. -/
def dependGrowsUptoCard : Claim7 := { stood := { row := dependGrowsUptoRow, standIns := [], harness := (true, "914a79f77d8ae750d08d74bdb1fc537324f19306e55f9cfc37195e834d134a8f"), looks := true }, kinds := [], alts := [], laidByText := true, laidKinds := [.data, .data, .data, .data, .data, .pinned], laidTests := true, laidLooks := .later }
def DependGrowsUptoCardSaid : Prop := Claim7.holds Tryd.pinned (.plain (OpenSpec.upto dependGrowsSpec)) dependGrowsUptoCard
end Rows
end Go.Proofs.YtglfdipepofcjabDoor
