/-
  DERIVED. GIVEN WITH THE SEED: THE CARDS: each row of YtagccngcedblhaaDoorRows.lean that lists a variable, with what it lists TIED to the program's text (the seventh form; the later family's looks); each row that meets fmt, with fmt's text TOLD by the authors' own Lean function (tested against real Go, not proved from fmt's source: count such statements apart). THE CARD IS WHAT COUNTS. Prove the row's statement (the work); the ties are given (YtagccngcedblhaaDoorTie.lean); close each card by the builder's one call (the guide's Derived/Test/ToyasCard.lean, 'card_holds'). Laid BY PROGRAM, IN A SANDBOX (cutbox-door.mjs). By AI agents, Wed Nov 11 2026. No macro, syntax, notation, axiom, sorry.
-/
import Derived.Test.YtagccngcedblhaaDoorRows
import GoSem.ClaimSeven
namespace Go.Proofs.YtagccngcedblhaaDoor
namespace Rows

/-- THE TIED CARD OF 'longshorelaw04.SizeReads'. -/
def sizeReadsCard : Claim7 := { stood := { row := sizeReadsRow, standIns := [], harness := (true, "8ea421c1545e4487ad4d345f89515c21112ba378962a39dd10e50df7d6f4a843"), looks := false }, kinds := [], alts := [], laidByText := true, laidKinds := [.data, .data, .pinned], laidTests := true, laidLooks := .later }
def SizeReadsCardSaid : Prop := Claim7.holds Tryd.pinned (.plain (OpenSpec.ofChange sizeReadsSpec)) sizeReadsCard

/-- THE TIED CARD OF 'longshorelaw04.SizeWrites'. -/
def sizeWritesCard : Claim7 := { stood := { row := sizeWritesRow, standIns := [], harness := (true, "8ea421c1545e4487ad4d345f89515c21112ba378962a39dd10e50df7d6f4a843"), looks := false }, kinds := [], alts := [], laidByText := true, laidKinds := [.data, .data, .pinned], laidTests := true, laidLooks := .later }
def SizeWritesCardSaid : Prop := Claim7.holds Tryd.pinned (.plain (OpenSpec.ofChange sizeWritesSpec)) sizeWritesCard

/-- THE TIED CARD OF 'longshorelaw04.SizeBack'. -/
def sizeBackCard : Claim7 := { stood := { row := sizeBackRow, standIns := [], harness := (true, "8ea421c1545e4487ad4d345f89515c21112ba378962a39dd10e50df7d6f4a843"), looks := false }, kinds := [], alts := [], laidByText := true, laidKinds := [.data, .data, .pinned], laidTests := true, laidLooks := .later }
def SizeBackCardSaid : Prop := Claim7.holds Tryd.pinned (.plain (OpenSpec.ofChange sizeBackSpec)) sizeBackCard

/-- THE SECOND FORM's CARD OF 'longshorelaw04.SizeReads'. -/
def sizeReadsUptoCard : Claim7 := { stood := { row := sizeReadsUptoRow, standIns := [], harness := (true, "8ea421c1545e4487ad4d345f89515c21112ba378962a39dd10e50df7d6f4a843"), looks := false }, kinds := [], alts := [], laidByText := true, laidKinds := [.data, .data, .pinned], laidTests := true, laidLooks := .later }
def SizeReadsUptoCardSaid : Prop := Claim7.holds Tryd.pinned (.plain (OpenSpec.upto sizeReadsSpec)) sizeReadsUptoCard

/-- THE SECOND FORM's CARD OF 'longshorelaw04.SizeWrites'. -/
def sizeWritesUptoCard : Claim7 := { stood := { row := sizeWritesUptoRow, standIns := [], harness := (true, "8ea421c1545e4487ad4d345f89515c21112ba378962a39dd10e50df7d6f4a843"), looks := false }, kinds := [], alts := [], laidByText := true, laidKinds := [.data, .data, .pinned], laidTests := true, laidLooks := .later }
def SizeWritesUptoCardSaid : Prop := Claim7.holds Tryd.pinned (.plain (OpenSpec.upto sizeWritesSpec)) sizeWritesUptoCard

/-- THE SECOND FORM's CARD OF 'longshorelaw04.SizeBack'. -/
def sizeBackUptoCard : Claim7 := { stood := { row := sizeBackUptoRow, standIns := [], harness := (true, "8ea421c1545e4487ad4d345f89515c21112ba378962a39dd10e50df7d6f4a843"), looks := false }, kinds := [], alts := [], laidByText := true, laidKinds := [.data, .data, .pinned], laidTests := true, laidLooks := .later }
def SizeBackUptoCardSaid : Prop := Claim7.holds Tryd.pinned (.plain (OpenSpec.upto sizeBackSpec)) sizeBackUptoCard
end Rows
end Go.Proofs.YtagccngcedblhaaDoor
