/-
  DERIVED. GIVEN WITH THE SEED: THE CARDS: each row of YtekfbnhicmfaaaaDoorRows.lean that lists a variable, with what it lists TIED to the program's text (the seventh form; the later family's looks); each row that meets fmt, with fmt's text TOLD by the authors' own Lean function (tested against real Go, not proved from fmt's source: count such statements apart). THE CARD IS WHAT COUNTS. Prove the row's statement (the work); the ties are given (YtekfbnhicmfaaaaDoorTie.lean); close each card by the builder's one call (the guide's Derived/Test/ToyasCard.lean, 'card_holds'). Laid BY PROGRAM, IN A SANDBOX (cutbox-door.mjs). By AI agents, Wed Nov 11 2026. No macro, syntax, notation, axiom, sorry.
-/
import Derived.Test.YtekfbnhicmfaaaaDoorRows
import GoSem.ClaimSeven
namespace Go.Proofs.YtekfbnhicmfaaaaDoor
namespace Rows

/-- THE TIED CARD OF 'longshorelaw13.TmplTells'. -/
def tmplTellsCard : Claim7 := { stood := { row := tmplTellsRow, standIns := [], harness := (true, "77837622e2a3bf4940e5d05467396d64d694c260dee8653ec53f98db669ec7ec"), looks := false }, kinds := [], alts := [], laidByText := true, laidKinds := [.data, .data, .pinned], laidTests := true, laidLooks := .later }
def TmplTellsCardSaid : Prop := Claim7.holds Tryd.pinned (.plain (OpenSpec.ofChange tmplTellsSpec)) tmplTellsCard

/-- THE TIED CARD OF 'longshorelaw13.TmplBack'. -/
def tmplBackCard : Claim7 := { stood := { row := tmplBackRow, standIns := [], harness := (true, "77837622e2a3bf4940e5d05467396d64d694c260dee8653ec53f98db669ec7ec"), looks := false }, kinds := [], alts := [], laidByText := true, laidKinds := [.data, .data, .pinned], laidTests := true, laidLooks := .later }
def TmplBackCardSaid : Prop := Claim7.holds Tryd.pinned (.plain (OpenSpec.ofChange tmplBackSpec)) tmplBackCard

/-- THE SECOND FORM's CARD OF 'longshorelaw13.TmplTells'. -/
def tmplTellsUptoCard : Claim7 := { stood := { row := tmplTellsUptoRow, standIns := [], harness := (true, "77837622e2a3bf4940e5d05467396d64d694c260dee8653ec53f98db669ec7ec"), looks := false }, kinds := [], alts := [], laidByText := true, laidKinds := [.data, .data, .pinned], laidTests := true, laidLooks := .later }
def TmplTellsUptoCardSaid : Prop := Claim7.holds Tryd.pinned (.plain (OpenSpec.upto tmplTellsSpec)) tmplTellsUptoCard

/-- THE SECOND FORM's CARD OF 'longshorelaw13.TmplBack'. -/
def tmplBackUptoCard : Claim7 := { stood := { row := tmplBackUptoRow, standIns := [], harness := (true, "77837622e2a3bf4940e5d05467396d64d694c260dee8653ec53f98db669ec7ec"), looks := false }, kinds := [], alts := [], laidByText := true, laidKinds := [.data, .data, .pinned], laidTests := true, laidLooks := .later }
def TmplBackUptoCardSaid : Prop := Claim7.holds Tryd.pinned (.plain (OpenSpec.upto tmplBackSpec)) tmplBackUptoCard
end Rows
end Go.Proofs.YtekfbnhicmfaaaaDoor
