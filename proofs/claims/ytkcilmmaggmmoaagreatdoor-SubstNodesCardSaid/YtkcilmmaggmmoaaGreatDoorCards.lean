/-
  DERIVED. GIVEN WITH THE SEED: THE CARDS: each row of YtkcilmmaggmmoaaGreatDoorRows.lean that lists a variable, with what it lists TIED to the program's text (the seventh form; the later family's looks); each row that meets fmt, with fmt's text TOLD by the authors' own Lean function (tested against real Go, not proved from fmt's source: count such statements apart). THE CARD IS WHAT COUNTS. Prove the row's statement (the work); the ties are given (YtkcilmmaggmmoaaGreatDoorTie.lean); close each card by the builder's one call (the guide's Derived/Test/ToyasCard.lean, 'card_holds'). Laid BY PROGRAM, IN A SANDBOX (cutbox-door.mjs). By AI agents, Wed Nov 11 2026. No macro, syntax, notation, axiom, sorry.
-/
import Derived.Test.YtkcilmmaggmmoaaGreatDoorRows
import GoSem.ClaimSeven
namespace Go.Proofs.YtkcilmmaggmmoaaGreatDoor
namespace Rows

/-- THE TIED CARD OF 'longshorelaw14.SubstNodes'. -/
def substNodesCard : Claim7 := { stood := { row := substNodesRow, standIns := [], harness := (true, "b35270de841f3c6746c52e57348ff0e198939aba4fe68d999cd3c90fd1a4cae3"), looks := true }, kinds := [], alts := [], laidByText := true, laidKinds := [.data], laidTests := true, laidLooks := .later }
def SubstNodesCardSaid : Prop := Claim7.holds Tryz.pinned (.plain (OpenSpec.ofChange substNodesSpec)) substNodesCard

/-- THE SECOND FORM's CARD OF 'longshorelaw14.SubstNodes'. -/
def substNodesUptoCard : Claim7 := { stood := { row := substNodesUptoRow, standIns := [], harness := (true, "b35270de841f3c6746c52e57348ff0e198939aba4fe68d999cd3c90fd1a4cae3"), looks := true }, kinds := [], alts := [], laidByText := true, laidKinds := [.data], laidTests := true, laidLooks := .later }
def SubstNodesUptoCardSaid : Prop := Claim7.holds Tryz.pinned (.plain (OpenSpec.upto substNodesSpec)) substNodesUptoCard
end Rows
end Go.Proofs.YtkcilmmaggmmoaaGreatDoor
