/- Chapter 16's first two laws: the program's contracts put in. -/
import Derived.Test.YtkgfinhepbipeaaDoorLawPrt2
namespace Go.Proofs.YtkgfinhepbipeaaDoor
open Go.RowKit Go.Sort
open Nw Dg P16
set_option linter.unusedVariables false
theorem hprs : HPrs16 := fun s w hw hs => Parse16_any s w hw hs
theorem hrgt : HRgt16 := fun h pr o i w hw hs => Right_any h pr o i w hw hs
theorem htxt : HTxt16 := fun h pr o i w hw hs => Text16_any h pr o i w hw hs
theorem PortParses_row (s : ByteArray) (w : World) (hw : SomeMax w) (hs : s.size ≤ maxLen) :
    Calls Tryd.prog 3 #[.string s] w fun e w' => e = .returned (.bool true) ∧ Below w.heap.size w w' := PortParses_walk hprs hrgt htxt s w hw
theorem PortTexts_row (h pr : ByteArray) (o i : Int) (w : World) (hw : SomeMax w) (hs : h.size ≤ maxLen) (hp : pr.size ≤ maxLen) :
    Calls Tryd.prog 4 #[.agg #[.string h, .int .i64 o, .int .i64 i, .string pr]] w fun e w' => e = .returned (.bool true) ∧ Below w.heap.size w w' := PortTexts_walk hprs hrgt htxt h pr o i w hw
end Go.Proofs.YtkgfinhepbipeaaDoor
