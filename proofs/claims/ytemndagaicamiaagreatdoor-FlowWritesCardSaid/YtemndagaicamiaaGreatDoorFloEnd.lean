/- The two laws of flow, over the program's own Write and Parse. -/
import Derived.Test.YtemndagaicamiaaGreatDoorFloWr4
import Derived.Test.YtemndagaicamiaaGreatDoorFloPrs
namespace Go.Proofs.YtemndagaicamiaaGreatDoor
open Go.RowKit Go.Sort
open Nw N8 Q6 F9
theorem FlowWrites_walk (n : Nd) (c0 c1 c2 c3 : Value) (w : World) (hn : NdW w n c0 c1 c2 c3) :
    Calls Tryz.prog 3 #[.agg #[c0, c1, c2, c3]] w fun e w' => e = .returned (.bool true) ∧ Below w.heap.size w w' :=
  FlowWrites_law write_c parse_c n c0 c1 c2 c3 w hn
theorem FlowBack_walk (n : Nd) (s : ByteArray) (c0 c1 c2 c3 : Value) (w : World) (hn : NdW w n c0 c1 c2 c3) (hs : s.size ≤ maxLen) :
    Calls Tryz.prog 4 #[.agg #[c0, c1, c2, c3], .string s] w fun e w' => e = .returned (.bool true) ∧ Below w.heap.size w w' :=
  FlowBack_law write_c parse_c n s c0 c1 c2 c3 w hn hs
end Go.Proofs.YtemndagaicamiaaGreatDoor
