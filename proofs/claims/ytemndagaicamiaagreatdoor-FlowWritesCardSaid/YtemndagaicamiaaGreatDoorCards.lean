/-
  DERIVED. GIVEN WITH THE SEED: THE CARDS: each row of YtemndagaicamiaaGreatDoorRows.lean that lists a variable, with what it lists TIED to the program's text (the seventh form; the later family's looks); each row that meets fmt, with fmt's text TOLD by the authors' own Lean function (tested against real Go, not proved from fmt's source: count such statements apart). THE CARD IS WHAT COUNTS. Prove the row's statement (the work); the ties are given (YtemndagaicamiaaGreatDoorTie.lean); close each card by the builder's one call (the guide's Derived/Test/ToyasCard.lean, 'card_holds'). Laid BY PROGRAM, IN A SANDBOX (cutbox-door.mjs). By AI agents, Wed Nov 11 2026. No macro, syntax, notation, axiom, sorry.
-/
import Derived.Test.YtemndagaicamiaaGreatDoorRows
import GoSem.ClaimSeven
namespace Go.Proofs.YtemndagaicamiaaGreatDoor
namespace Rows

/-- THE TIED CARD OF 'longshorelaw09.FlowWrites'. -/
def flowWritesCard : Claim7 := { stood := { row := flowWritesRow, standIns := [], harness := (true, "e68885ed14ba94c0a57a6ab550a8dc7b38fc4739c1334d3257fc8bfe928874fd"), looks := false }, kinds := [], alts := [], laidByText := true, laidKinds := [.data, .pinned], laidTests := true, laidLooks := .later }
def FlowWritesCardSaid : Prop := Claim7.holds Tryz.pinned (.plain (OpenSpec.ofChange flowWritesSpec)) flowWritesCard

/-- THE TIED CARD OF 'longshorelaw09.FlowBack'. -/
def flowBackCard : Claim7 := { stood := { row := flowBackRow, standIns := [], harness := (true, "e68885ed14ba94c0a57a6ab550a8dc7b38fc4739c1334d3257fc8bfe928874fd"), looks := false }, kinds := [], alts := [], laidByText := true, laidKinds := [.data, .pinned], laidTests := true, laidLooks := .later }
def FlowBackCardSaid : Prop := Claim7.holds Tryz.pinned (.plain (OpenSpec.ofChange flowBackSpec)) flowBackCard

/-- THE SECOND FORM's CARD OF 'longshorelaw09.FlowWrites'. -/
def flowWritesUptoCard : Claim7 := { stood := { row := flowWritesUptoRow, standIns := [], harness := (true, "e68885ed14ba94c0a57a6ab550a8dc7b38fc4739c1334d3257fc8bfe928874fd"), looks := false }, kinds := [], alts := [], laidByText := true, laidKinds := [.data, .pinned], laidTests := true, laidLooks := .later }
def FlowWritesUptoCardSaid : Prop := Claim7.holds Tryz.pinned (.plain (OpenSpec.upto flowWritesSpec)) flowWritesUptoCard

/-- THE SECOND FORM's CARD OF 'longshorelaw09.FlowBack'. -/
def flowBackUptoCard : Claim7 := { stood := { row := flowBackUptoRow, standIns := [], harness := (true, "e68885ed14ba94c0a57a6ab550a8dc7b38fc4739c1334d3257fc8bfe928874fd"), looks := false }, kinds := [], alts := [], laidByText := true, laidKinds := [.data, .pinned], laidTests := true, laidLooks := .later }
def FlowBackUptoCardSaid : Prop := Claim7.holds Tryz.pinned (.plain (OpenSpec.upto flowBackSpec)) flowBackUptoCard
end Rows
end Go.Proofs.YtemndagaicamiaaGreatDoor
