/- What Parse hands back. -/
import Derived.Test.YtekfbnhicmfaaaaDoorTmpMem
namespace Go.Proofs.YtekfbnhicmfaaaaDoor
open Go.RowKit Go.Sort
open Nw T13
set_option linter.unusedVariables false
/-- What the program's Parse hands back. -/
def GivesP (R : PR) (w : World) (e : Ending) (w' : World) : Prop := match R with
  | .ok ps _ => ∃ v, e = .returned (.tuple #[v, .int .i64 0]) ∧ PtW w' v ps ∧ Below w.heap.size w w'
  | .err er => ∃ v, e = .returned (.tuple #[v, .int .i64 er]) ∧ PtW w' v [] ∧ Below w.heap.size w w'
end Go.Proofs.YtekfbnhicmfaaaaDoor
