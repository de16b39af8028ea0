/-
  DERIVED. GIVEN WITH THE SEED: THE CARDS: each row of YtidagmecghbaeaaDoorRows.lean that lists a variable, with what it lists TIED to the program's text (the seventh form; the later family's looks); each row that meets fmt, with fmt's text TOLD by the authors' own Lean function (tested against real Go, not proved from fmt's source: count such statements apart). THE CARD IS WHAT COUNTS. Prove the row's statement (the work); the ties are given (YtidagmecghbaeaaDoorTie.lean); close each card by the builder's one call (the guide's Derived/Test/ToyasCard.lean, 'card_holds'). Laid BY PROGRAM, IN A SANDBOX (cutbox-door.mjs). By AI agents, Wed Nov 11 2026. No macro, syntax, notation, axiom, sorry.
-/
import Derived.Test.YtidagmecghbaeaaDoorRows
import GoSem.ClaimSeven
namespace Go.Proofs.YtidagmecghbaeaaDoor
namespace Rows

/-- THE TIED CARD OF 'longshorelaw06.QuoteAsks'. -/
def quoteAsksCard : Claim7 := { stood := { row := quoteAsksRow, standIns := [], harness := (true, "48833871a0839a8fb5af023f3d25d7cbeada1f652a83b9f56a0eaa8370ae9fde"), looks := false }, kinds := [], alts := [], laidByText := true, laidKinds := [.data, .pinned], laidTests := true, laidLooks := .later }
def QuoteAsksCardSaid : Prop := Claim7.holds Tryd.pinned (.plain (OpenSpec.ofChange quoteAsksSpec)) quoteAsksCard

/-- THE TIED CARD OF 'longshorelaw06.QuoteBack'. -/
def quoteBackCard : Claim7 := { stood := { row := quoteBackRow, standIns := [], harness := (true, "48833871a0839a8fb5af023f3d25d7cbeada1f652a83b9f56a0eaa8370ae9fde"), looks := false }, kinds := [], alts := [], laidByText := true, laidKinds := [.data, .pinned], laidTests := true, laidLooks := .later }
def QuoteBackCardSaid : Prop := Claim7.holds Tryd.pinned (.plain (OpenSpec.ofChange quoteBackSpec)) quoteBackCard

/-- THE SECOND FORM's CARD OF 'longshorelaw06.QuoteAsks'. -/
def quoteAsksUptoCard : Claim7 := { stood := { row := quoteAsksUptoRow, standIns := [], harness := (true, "48833871a0839a8fb5af023f3d25d7cbeada1f652a83b9f56a0eaa8370ae9fde"), looks := false }, kinds := [], alts := [], laidByText := true, laidKinds := [.data, .pinned], laidTests := true, laidLooks := .later }
def QuoteAsksUptoCardSaid : Prop := Claim7.holds Tryd.pinned (.plain (OpenSpec.upto quoteAsksSpec)) quoteAsksUptoCard

/-- THE SECOND FORM's CARD OF 'longshorelaw06.QuoteBack'. -/
def quoteBackUptoCard : Claim7 := { stood := { row := quoteBackUptoRow, standIns := [], harness := (true, "48833871a0839a8fb5af023f3d25d7cbeada1f652a83b9f56a0eaa8370ae9fde"), looks := false }, kinds := [], alts := [], laidByText := true, laidKinds := [.data, .pinned], laidTests := true, laidLooks := .later }
def QuoteBackUptoCardSaid : Prop := Claim7.holds Tryd.pinned (.plain (OpenSpec.upto quoteBackSpec)) quoteBackUptoCard
end Rows
end Go.Proofs.YtidagmecghbaeaaDoor
