/-
  DERIVED. GIVEN WITH THE SEED: THE CARDS: each row of YtecglpocmhkkiaaGreatDoorRows.lean that lists a variable, with what it lists TIED to the program's text (the seventh form; the later family's looks); each row that meets fmt, with fmt's text TOLD by the authors' own Lean function (tested against real Go, not proved from fmt's source: count such statements apart). THE CARD IS WHAT COUNTS. Prove the row's statement (the work); the ties are given (YtecglpocmhkkiaaGreatDoorTie.lean); close each card by the builder's one call (the guide's Derived/Test/ToyasCard.lean, 'card_holds'). Laid BY PROGRAM, IN A SANDBOX (cutbox-door.mjs). By AI agents, Wed Nov 11 2026. No macro, syntax, notation, axiom, sorry.
-/
import Derived.Test.YtecglpocmhkkiaaGreatDoorRows
import GoSem.ClaimSeven
namespace Go.Proofs.YtecglpocmhkkiaaGreatDoor
namespace Rows

/-- THE TIED CARD OF 'longshorelaw10.BlockParses'. -/
def blockParsesCard : Claim7 := { stood := { row := blockParsesRow, standIns := [], harness := (true, "6bbc03d84fbc475cf8f453a49dba97817af7459bff977ac536db45d1c357c12d"), looks := false }, kinds := [], alts := [], laidByText := true, laidKinds := [.data, .pinned], laidTests := true, laidLooks := .later }
def BlockParsesCardSaid : Prop := Claim7.holds Tryz.pinned (.plain (OpenSpec.ofChange blockParsesSpec)) blockParsesCard

/-- THE TIED CARD OF 'longshorelaw10.BlockEntries'. -/
def blockEntriesCard : Claim7 := { stood := { row := blockEntriesRow, standIns := [], harness := (true, "6bbc03d84fbc475cf8f453a49dba97817af7459bff977ac536db45d1c357c12d"), looks := false }, kinds := [], alts := [], laidByText := true, laidKinds := [.data, .pinned], laidTests := true, laidLooks := .later }
def BlockEntriesCardSaid : Prop := Claim7.holds Tryz.pinned (.plain (OpenSpec.ofChange blockEntriesSpec)) blockEntriesCard

/-- THE TIED CARD OF 'longshorelaw10.BlockSpread'. -/
def blockSpreadCard : Claim7 := { stood := { row := blockSpreadRow, standIns := [], harness := (true, "6bbc03d84fbc475cf8f453a49dba97817af7459bff977ac536db45d1c357c12d"), looks := false }, kinds := [], alts := [], laidByText := true, laidKinds := [.data, .pinned], laidTests := true, laidLooks := .later }
def BlockSpreadCardSaid : Prop := Claim7.holds Tryz.pinned (.plain (OpenSpec.ofChange blockSpreadSpec)) blockSpreadCard

/-- THE SECOND FORM's CARD OF 'longshorelaw10.BlockParses'. -/
def blockParsesUptoCard : Claim7 := { stood := { row := blockParsesUptoRow, standIns := [], harness := (true, "6bbc03d84fbc475cf8f453a49dba97817af7459bff977ac536db45d1c357c12d"), looks := false }, kinds := [], alts := [], laidByText := true, laidKinds := [.data, .pinned], laidTests := true, laidLooks := .later }
def BlockParsesUptoCardSaid : Prop := Claim7.holds Tryz.pinned (.plain (OpenSpec.upto blockParsesSpec)) blockParsesUptoCard

/-- THE SECOND FORM's CARD OF 'longshorelaw10.BlockEntries'. -/
def blockEntriesUptoCard : Claim7 := { stood := { row := blockEntriesUptoRow, standIns := [], harness := (true, "6bbc03d84fbc475cf8f453a49dba97817af7459bff977ac536db45d1c357c12d"), looks := false }, kinds := [], alts := [], laidByText := true, laidKinds := [.data, .pinned], laidTests := true, laidLooks := .later }
def BlockEntriesUptoCardSaid : Prop := Claim7.holds Tryz.pinned (.plain (OpenSpec.upto blockEntriesSpec)) blockEntriesUptoCard

/-- THE SECOND FORM's CARD OF 'longshorelaw10.BlockSpread'. -/
def blockSpreadUptoCard : Claim7 := { stood := { row := blockSpreadUptoRow, standIns := [], harness := (true, "6bbc03d84fbc475cf8f453a49dba97817af7459bff977ac536db45d1c357c12d"), looks := false }, kinds := [], alts := [], laidByText := true, laidKinds := [.data, .pinned], laidTests := true, laidLooks := .later }
def BlockSpreadUptoCardSaid : Prop := Claim7.holds Tryz.pinned (.plain (OpenSpec.upto blockSpreadSpec)) blockSpreadUptoCard
end Rows
end Go.Proofs.YtecglpocmhkkiaaGreatDoor
