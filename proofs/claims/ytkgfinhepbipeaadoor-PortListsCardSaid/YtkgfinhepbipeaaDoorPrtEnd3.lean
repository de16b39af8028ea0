/- Chapter 16's third law, as the row takes it. -/
import Derived.Test.YtkgfinhepbipeaaDoorLawPrt3
namespace Go.Proofs.YtkgfinhepbipeaaDoor
open Go.RowKit
theorem PortLists_row (l : List P16.Po) (v : Value) (w : World) (hw : SomeMax w) (h : PR w v l) :
    Calls Tryd.prog 5 #[v] w fun e w' => e = .returned (.bool true) ∧ Below w.heap.size w w' := PortLists_walk l v w hw h
end Go.Proofs.YtkgfinhepbipeaaDoor
