/-
  DERIVED. GIVEN WITH THE SEED: THE CARDS: each row of YtmdgpejedbkkdaaGreatDoorRows.lean that lists a variable, with what it lists TIED to the program's text (the seventh form; the later family's looks); each row that meets fmt, with fmt's text TOLD by the authors' own Lean function (tested against real Go, not proved from fmt's source: count such statements apart). THE CARD IS WHAT COUNTS. Prove the row's statement (the work); the ties are given (YtmdgpejedbkkdaaGreatDoorTie.lean); close each card by the builder's one call (the guide's Derived/Test/ToyasCard.lean, 'card_holds'). Laid BY PROGRAM, IN A SANDBOX (cutbox-door.mjs). By AI agents, Wed Nov 11 2026. No macro, syntax, notation, axiom, sorry.
-/
import Derived.Test.YtmdgpejedbkkdaaGreatDoorRows
import GoSem.ClaimSeven
namespace Go.Proofs.YtmdgpejedbkkdaaGreatDoor
namespace Rows

/-- THE TIED CARD OF 'longshorelaw11.EmitWrites'. -/
def emitWritesCard : Claim7 := { stood := { row := emitWritesRow, standIns := [], harness := (true, "9fd540438129868033faaebfb17572b171977ff4e10926f60ba11dac23b58950"), looks := false }, kinds := [], alts := [], laidByText := true, laidKinds := [.data, .pinned], laidTests := true, laidLooks := .later }
def EmitWritesCardSaid : Prop := Claim7.holds Tryz.pinned (.plain (OpenSpec.ofChange emitWritesSpec)) emitWritesCard

/-- THE TIED CARD OF 'longshorelaw11.EmitBack'. -/
def emitBackCard : Claim7 := { stood := { row := emitBackRow, standIns := [], harness := (true, "9fd540438129868033faaebfb17572b171977ff4e10926f60ba11dac23b58950"), looks := false }, kinds := [], alts := [], laidByText := true, laidKinds := [.data, .pinned], laidTests := true, laidLooks := .later }
def EmitBackCardSaid : Prop := Claim7.holds Tryz.pinned (.plain (OpenSpec.ofChange emitBackSpec)) emitBackCard

/-- THE TIED CARD OF 'longshorelaw11.EmitAgain'. -/
def emitAgainCard : Claim7 := { stood := { row := emitAgainRow, standIns := [], harness := (true, "9fd540438129868033faaebfb17572b171977ff4e10926f60ba11dac23b58950"), looks := false }, kinds := [], alts := [], laidByText := true, laidKinds := [.data, .pinned], laidTests := true, laidLooks := .later }
def EmitAgainCardSaid : Prop := Claim7.holds Tryz.pinned (.plain (OpenSpec.ofChange emitAgainSpec)) emitAgainCard

/-- THE SECOND FORM's CARD OF 'longshorelaw11.EmitWrites'. -/
def emitWritesUptoCard : Claim7 := { stood := { row := emitWritesUptoRow, standIns := [], harness := (true, "9fd540438129868033faaebfb17572b171977ff4e10926f60ba11dac23b58950"), looks := false }, kinds := [], alts := [], laidByText := true, laidKinds := [.data, .pinned], laidTests := true, laidLooks := .later }
def EmitWritesUptoCardSaid : Prop := Claim7.holds Tryz.pinned (.plain (OpenSpec.upto emitWritesSpec)) emitWritesUptoCard

/-- THE SECOND FORM's CARD OF 'longshorelaw11.EmitBack'. -/
def emitBackUptoCard : Claim7 := { stood := { row := emitBackUptoRow, standIns := [], harness := (true, "9fd540438129868033faaebfb17572b171977ff4e10926f60ba11dac23b58950"), looks := false }, kinds := [], alts := [], laidByText := true, laidKinds := [.data, .pinned], laidTests := true, laidLooks := .later }
def EmitBackUptoCardSaid : Prop := Claim7.holds Tryz.pinned (.plain (OpenSpec.upto emitBackSpec)) emitBackUptoCard

/-- THE SECOND FORM's CARD OF 'longshorelaw11.EmitAgain'. -/
def emitAgainUptoCard : Claim7 := { stood := { row := emitAgainUptoRow, standIns := [], harness := (true, "9fd540438129868033faaebfb17572b171977ff4e10926f60ba11dac23b58950"), looks := false }, kinds := [], alts := [], laidByText := true, laidKinds := [.data, .pinned], laidTests := true, laidLooks := .later }
def EmitAgainUptoCardSaid : Prop := Claim7.holds Tryz.pinned (.plain (OpenSpec.upto emitAgainSpec)) emitAgainUptoCard
end Rows
end Go.Proofs.YtmdgpejedbkkdaaGreatDoor
