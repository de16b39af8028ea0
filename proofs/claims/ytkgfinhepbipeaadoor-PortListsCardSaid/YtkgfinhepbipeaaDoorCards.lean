/-
  DERIVED. GIVEN WITH THE SEED: THE CARDS: each row of YtkgfinhepbipeaaDoorRows.lean that lists a variable, with what it lists TIED to the program's text (the seventh form; the later family's looks); each row that meets fmt, with fmt's text TOLD by the authors' own Lean function (tested against real Go, not proved from fmt's source: count such statements apart). THE CARD IS WHAT COUNTS. Prove the row's statement (the work); the ties are given (YtkgfinhepbipeaaDoorTie.lean); close each card by the builder's one call (the guide's Derived/Test/ToyasCard.lean, 'card_holds'). Laid BY PROGRAM, IN A SANDBOX (cutbox-door.mjs). By AI agents, Wed Nov 11 2026. No macro, syntax, notation, axiom, sorry.
-/
import Derived.Test.YtkgfinhepbipeaaDoorRows
import GoSem.ClaimSeven
namespace Go.Proofs.YtkgfinhepbipeaaDoor
namespace Rows

/-- THE TIED CARD OF 'longshorelaw16.PortParses'. -/
def portParsesCard : Claim7 := { stood := { row := portParsesRow, standIns := [], harness := (true, "3965223c226469d41127c19ac6181bd25cb8a190deb869a37ea39a98004a0791"), looks := false }, kinds := [], alts := [], laidByText := true, laidKinds := [.data, .pinned], laidTests := true, laidLooks := .later }
def PortParsesCardSaid : Prop := Claim7.holds Tryd.pinned (.plain (OpenSpec.ofChange portParsesSpec)) portParsesCard

/-- THE TIED CARD OF 'longshorelaw16.PortTexts'. -/
def portTextsCard : Claim7 := { stood := { row := portTextsRow, standIns := [], harness := (true, "3965223c226469d41127c19ac6181bd25cb8a190deb869a37ea39a98004a0791"), looks := false }, kinds := [], alts := [], laidByText := true, laidKinds := [.data, .pinned], laidTests := true, laidLooks := .later }
def PortTextsCardSaid : Prop := Claim7.holds Tryd.pinned (.plain (OpenSpec.ofChange portTextsSpec)) portTextsCard

/-- THE TIED CARD OF 'longshorelaw16.PortLists'. -/
def portListsCard : Claim7 := { stood := { row := portListsRow, standIns := [], harness := (true, "3965223c226469d41127c19ac6181bd25cb8a190deb869a37ea39a98004a0791"), looks := false }, kinds := [], alts := [], laidByText := true, laidKinds := [.data, .pinned], laidTests := true, laidLooks := .later }
def PortListsCardSaid : Prop := Claim7.holds Tryd.pinned (.plain (OpenSpec.ofChange portListsSpec)) portListsCard

/-- THE SECOND FORM's CARD OF 'longshorelaw16.PortParses'. -/
def portParsesUptoCard : Claim7 := { stood := { row := portParsesUptoRow, standIns := [], harness := (true, "3965223c226469d41127c19ac6181bd25cb8a190deb869a37ea39a98004a0791"), looks := false }, kinds := [], alts := [], laidByText := true, laidKinds := [.data, .pinned], laidTests := true, laidLooks := .later }
def PortParsesUptoCardSaid : Prop := Claim7.holds Tryd.pinned (.plain (OpenSpec.upto portParsesSpec)) portParsesUptoCard

/-- THE SECOND FORM's CARD OF 'longshorelaw16.PortTexts'. -/
def portTextsUptoCard : Claim7 := { stood := { row := portTextsUptoRow, standIns := [], harness := (true, "3965223c226469d41127c19ac6181bd25cb8a190deb869a37ea39a98004a0791"), looks := false }, kinds := [], alts := [], laidByText := true, laidKinds := [.data, .pinned], laidTests := true, laidLooks := .later }
def PortTextsUptoCardSaid : Prop := Claim7.holds Tryd.pinned (.plain (OpenSpec.upto portTextsSpec)) portTextsUptoCard

/-- THE SECOND FORM's CARD OF 'longshorelaw16.PortLists'. -/
def portListsUptoCard : Claim7 := { stood := { row := portListsUptoRow, standIns := [], harness := (true, "3965223c226469d41127c19ac6181bd25cb8a190deb869a37ea39a98004a0791"), looks := false }, kinds := [], alts := [], laidByText := true, laidKinds := [.data, .pinned], laidTests := true, laidLooks := .later }
def PortListsUptoCardSaid : Prop := Claim7.holds Tryd.pinned (.plain (OpenSpec.upto portListsSpec)) portListsUptoCard
end Rows
end Go.Proofs.YtkgfinhepbipeaaDoor
