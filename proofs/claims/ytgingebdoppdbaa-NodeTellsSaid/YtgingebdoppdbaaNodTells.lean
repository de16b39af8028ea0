/- NodeTells, its words in the row's order. -/
import Derived.Test.YtgingebdoppdbaaNodLaw1
namespace Go.Proofs.Ytgingebdoppdbaa
open Go.RowKit
open Nw N8
theorem NodeTells_law (n v : Nd) (key : ByteArray) (path : List L8) (pv : Value) (c0 c1 c2 c3 u0 u1 u2 u3 : Value) (w : World) (hn : NdW w n c0 c1 c2 c3) (hv : NdW w v u0 u1 u2 u3) (_ : key.size ≤ maxLen) (hp : Rd w pv path) (hx : ∀ x ∈ path, x.length ≤ maxLen) :
    Calls Try.prog 3 #[.agg #[c0, c1, c2, c3], .agg #[u0, u1, u2, u3], .string key, pv] w fun e w' => e = .returned (.bool true) ∧ Below w.heap.size w w' :=
  NodeTells_walk n v key path pv c0 c1 c2 c3 u0 u1 u2 u3 w hn hv hp hx
end Go.Proofs.Ytgingebdoppdbaa
