/-
  DERIVED. GIVEN WITH THE SEED: THE CARDS: each row of YtkcilmmaggmmoaaDoorRows.lean that lists a variable, with what it lists TIED to the program's text (the seventh form; the later family's looks); each row that meets fmt, with fmt's text TOLD by the authors' own Lean function (tested against real Go, not proved from fmt's source: count such statements apart). THE CARD IS WHAT COUNTS. Prove the row's statement (the work); the ties are given (YtkcilmmaggmmoaaDoorTie.lean); close each card by the builder's one call (the guide's Derived/Test/ToyasCard.lean, 'card_holds'). Laid BY PROGRAM, IN A SANDBOX (cutbox-door.mjs). By AI agents, Wed Nov 11 2026. No macro, syntax, notation, axiom, sorry.
-/
import Derived.Test.YtkcilmmaggmmoaaDoorRows
import GoSem.ClaimSeven
namespace Go.Proofs.YtkcilmmaggmmoaaDoor
namespace Rows

/-- THE TIED CARD OF 'longshorelaw14.SubstSays'. -/
def substSaysCard : Claim7 := { stood := { row := substSaysRow, standIns := [], harness := (true, "a4beac48bf83e5fa1112f616191fde02b97b5b9911e958e26dc73d3bc9d80376"), looks := true }, kinds := [], alts := [], laidByText := true, laidKinds := [.data, .data, .pinned], laidTests := true, laidLooks := .later }
def SubstSaysCardSaid : Prop := Claim7.holds Tryd.pinned (.plain (OpenSpec.ofChange substSaysSpec)) substSaysCard

/-- THE TIED CARD OF 'longshorelaw14.SubstAgree'. -/
def substAgreeCard : Claim7 := { stood := { row := substAgreeRow, standIns := [], harness := (true, "a4beac48bf83e5fa1112f616191fde02b97b5b9911e958e26dc73d3bc9d80376"), looks := true }, kinds := [], alts := [], laidByText := true, laidKinds := [.data, .data, .pinned], laidTests := true, laidLooks := .later }
def SubstAgreeCardSaid : Prop := Claim7.holds Tryd.pinned (.plain (OpenSpec.ofChange substAgreeSpec)) substAgreeCard

/-- THE SECOND FORM's CARD OF 'longshorelaw14.SubstSays'. -/
def substSaysUptoCard : Claim7 := { stood := { row := substSaysUptoRow, standIns := [], harness := (true, "a4beac48bf83e5fa1112f616191fde02b97b5b9911e958e26dc73d3bc9d80376"), looks := true }, kinds := [], alts := [], laidByText := true, laidKinds := [.data, .data, .pinned], laidTests := true, laidLooks := .later }
def SubstSaysUptoCardSaid : Prop := Claim7.holds Tryd.pinned (.plain (OpenSpec.upto substSaysSpec)) substSaysUptoCard

/-- THE SECOND FORM's CARD OF 'longshorelaw14.SubstAgree'. -/
def substAgreeUptoCard : Claim7 := { stood := { row := substAgreeUptoRow, standIns := [], harness := (true, "a4beac48bf83e5fa1112f616191fde02b97b5b9911e958e26dc73d3bc9d80376"), looks := true }, kinds := [], alts := [], laidByText := true, laidKinds := [.data, .data, .pinned], laidTests := true, laidLooks := .later }
def SubstAgreeUptoCardSaid : Prop := Claim7.holds Tryd.pinned (.plain (OpenSpec.upto substAgreeSpec)) substAgreeUptoCard
end Rows
end Go.Proofs.YtkcilmmaggmmoaaDoor
