/-
  DERIVED. GIVEN WITH THE SEED: THE CARDS: each row of YtgdejjkiiaodkaaGreatDoorRows.lean that lists a variable, with what it lists TIED to the program's text (the seventh form; the later family's looks); each row that meets fmt, with fmt's text TOLD by the authors' own Lean function (tested against real Go, not proved from fmt's source: count such statements apart). THE CARD IS WHAT COUNTS. Prove the row's statement (the work); the ties are given (YtgdejjkiiaodkaaGreatDoorTie.lean); close each card by the builder's one call (the guide's Derived/Test/ToyasCard.lean, 'card_holds'). Laid BY PROGRAM, IN A SANDBOX (cutbox-door.mjs). By AI agents, Wed Nov 11 2026. No macro, syntax, notation, axiom, sorry.
-/
import Derived.Test.YtgdejjkiiaodkaaGreatDoorRows
import GoSem.ClaimSeven
namespace Go.Proofs.YtgdejjkiiaodkaaGreatDoor
namespace Rows

/-- THE TIED CARD OF 'longshorelaw12.EnvGathers'. -/
def envGathersCard : Claim7 := { stood := { row := envGathersRow, standIns := [], harness := (true, "2189728aaea717eeade5a11ad6f5636a9dd5adac459eea023a5b3fcebf495835"), looks := false }, kinds := [], alts := [], laidByText := true, laidKinds := [.data, .pinned], laidTests := true, laidLooks := .later }
def EnvGathersCardSaid : Prop := Claim7.holds Tryz.pinned (.plain (OpenSpec.ofChange envGathersSpec)) envGathersCard

/-- THE TIED CARD OF 'longshorelaw12.EnvParses'. -/
def envParsesCard : Claim7 := { stood := { row := envParsesRow, standIns := [], harness := (true, "2189728aaea717eeade5a11ad6f5636a9dd5adac459eea023a5b3fcebf495835"), looks := false }, kinds := [], alts := [], laidByText := true, laidKinds := [.data, .pinned], laidTests := true, laidLooks := .later }
def EnvParsesCardSaid : Prop := Claim7.holds Tryz.pinned (.plain (OpenSpec.ofChange envParsesSpec)) envParsesCard

/-- THE TIED CARD OF 'longshorelaw12.EnvOver'. -/
def envOverCard : Claim7 := { stood := { row := envOverRow, standIns := [], harness := (true, "2189728aaea717eeade5a11ad6f5636a9dd5adac459eea023a5b3fcebf495835"), looks := false }, kinds := [], alts := [], laidByText := true, laidKinds := [.data, .pinned], laidTests := true, laidLooks := .later }
def EnvOverCardSaid : Prop := Claim7.holds Tryz.pinned (.plain (OpenSpec.ofChange envOverSpec)) envOverCard

/-- THE SECOND FORM's CARD OF 'longshorelaw12.EnvGathers'. -/
def envGathersUptoCard : Claim7 := { stood := { row := envGathersUptoRow, standIns := [], harness := (true, "2189728aaea717eeade5a11ad6f5636a9dd5adac459eea023a5b3fcebf495835"), looks := false }, kinds := [], alts := [], laidByText := true, laidKinds := [.data, .pinned], laidTests := true, laidLooks := .later }
def EnvGathersUptoCardSaid : Prop := Claim7.holds Tryz.pinned (.plain (OpenSpec.upto envGathersSpec)) envGathersUptoCard

/-- THE SECOND FORM's CARD OF 'longshorelaw12.EnvParses'. -/
def envParsesUptoCard : Claim7 := { stood := { row := envParsesUptoRow, standIns := [], harness := (true, "2189728aaea717eeade5a11ad6f5636a9dd5adac459eea023a5b3fcebf495835"), looks := false }, kinds := [], alts := [], laidByText := true, laidKinds := [.data, .pinned], laidTests := true, laidLooks := .later }
def EnvParsesUptoCardSaid : Prop := Claim7.holds Tryz.pinned (.plain (OpenSpec.upto envParsesSpec)) envParsesUptoCard

/-- THE SECOND FORM's CARD OF 'longshorelaw12.EnvOver'. -/
def envOverUptoCard : Claim7 := { stood := { row := envOverUptoRow, standIns := [], harness := (true, "2189728aaea717eeade5a11ad6f5636a9dd5adac459eea023a5b3fcebf495835"), looks := false }, kinds := [], alts := [], laidByText := true, laidKinds := [.data, .pinned], laidTests := true, laidLooks := .later }
def EnvOverUptoCardSaid : Prop := Claim7.holds Tryz.pinned (.plain (OpenSpec.upto envOverSpec)) envOverUptoCard
end Rows
end Go.Proofs.YtgdejjkiiaodkaaGreatDoor
