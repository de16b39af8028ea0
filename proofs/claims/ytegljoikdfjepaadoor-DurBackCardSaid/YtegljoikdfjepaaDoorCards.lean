/-
  DERIVED. GIVEN WITH THE SEED: THE CARDS: each row of YtegljoikdfjepaaDoorRows.lean that lists a variable, with what it lists TIED to the program's text (the seventh form; the later family's looks); each row that meets fmt, with fmt's text TOLD by the authors' own Lean function (tested against real Go, not proved from fmt's source: count such statements apart). THE CARD IS WHAT COUNTS. Prove the row's statement (the work); the ties are given (YtegljoikdfjepaaDoorTie.lean); close each card by the builder's one call (the guide's Derived/Test/ToyasCard.lean, 'card_holds'). Laid BY PROGRAM, IN A SANDBOX (cutbox-door.mjs). By AI agents, Wed Nov 11 2026. No macro, syntax, notation, axiom, sorry.
-/
import Derived.Test.YtegljoikdfjepaaDoorRows
import GoSem.ClaimSeven
namespace Go.Proofs.YtegljoikdfjepaaDoor
namespace Rows

/-- THE TIED CARD OF 'longshorelaw03.DurReads'. -/
def durReadsCard : Claim7 := { stood := { row := durReadsRow, standIns := [], harness := (true, "440bb9be000d730cf0155d270a1f6f5f629c08fc9e07fd908e83f49233fa3cb7"), looks := false }, kinds := [], alts := [], laidByText := true, laidKinds := [.data, .pinned], laidTests := true, laidLooks := .later }
def DurReadsCardSaid : Prop := Claim7.holds Tryd.pinned (.plain (OpenSpec.ofChange durReadsSpec)) durReadsCard

/-- THE TIED CARD OF 'longshorelaw03.DurReckons'. -/
def durReckonsCard : Claim7 := { stood := { row := durReckonsRow, standIns := [], harness := (true, "440bb9be000d730cf0155d270a1f6f5f629c08fc9e07fd908e83f49233fa3cb7"), looks := false }, kinds := [], alts := [], laidByText := true, laidKinds := [.data, .pinned], laidTests := true, laidLooks := .later }
def DurReckonsCardSaid : Prop := Claim7.holds Tryd.pinned (.plain (OpenSpec.ofChange durReckonsSpec)) durReckonsCard

/-- THE TIED CARD OF 'longshorelaw03.DurBack'. -/
def durBackCard : Claim7 := { stood := { row := durBackRow, standIns := [], harness := (true, "440bb9be000d730cf0155d270a1f6f5f629c08fc9e07fd908e83f49233fa3cb7"), looks := false }, kinds := [], alts := [], laidByText := true, laidKinds := [.data, .pinned], laidTests := true, laidLooks := .later }
def DurBackCardSaid : Prop := Claim7.holds Tryd.pinned (.plain (OpenSpec.ofChange durBackSpec)) durBackCard

/-- THE SECOND FORM's CARD OF 'longshorelaw03.DurReads'. -/
def durReadsUptoCard : Claim7 := { stood := { row := durReadsUptoRow, standIns := [], harness := (true, "440bb9be000d730cf0155d270a1f6f5f629c08fc9e07fd908e83f49233fa3cb7"), looks := false }, kinds := [], alts := [], laidByText := true, laidKinds := [.data, .pinned], laidTests := true, laidLooks := .later }
def DurReadsUptoCardSaid : Prop := Claim7.holds Tryd.pinned (.plain (OpenSpec.upto durReadsSpec)) durReadsUptoCard

/-- THE SECOND FORM's CARD OF 'longshorelaw03.DurReckons'. -/
def durReckonsUptoCard : Claim7 := { stood := { row := durReckonsUptoRow, standIns := [], harness := (true, "440bb9be000d730cf0155d270a1f6f5f629c08fc9e07fd908e83f49233fa3cb7"), looks := false }, kinds := [], alts := [], laidByText := true, laidKinds := [.data, .pinned], laidTests := true, laidLooks := .later }
def DurReckonsUptoCardSaid : Prop := Claim7.holds Tryd.pinned (.plain (OpenSpec.upto durReckonsSpec)) durReckonsUptoCard

/-- THE SECOND FORM's CARD OF 'longshorelaw03.DurBack'. -/
def durBackUptoCard : Claim7 := { stood := { row := durBackUptoRow, standIns := [], harness := (true, "440bb9be000d730cf0155d270a1f6f5f629c08fc9e07fd908e83f49233fa3cb7"), looks := false }, kinds := [], alts := [], laidByText := true, laidKinds := [.data, .pinned], laidTests := true, laidLooks := .later }
def DurBackUptoCardSaid : Prop := Claim7.holds Tryd.pinned (.plain (OpenSpec.upto durBackSpec)) durBackUptoCard
end Rows
end Go.Proofs.YtegljoikdfjepaaDoor
