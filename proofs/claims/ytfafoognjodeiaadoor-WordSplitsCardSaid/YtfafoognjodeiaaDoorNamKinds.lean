/- Contracts of the functions that tell names: the program's closures and isName, the reference's kinds. -/
import Derived.Test.YtfafoognjodeiaaDoorRows
import Derived.Test.YtfafoognjodeiaaDoorNamMath
import Derived.WalkKit
import Derived.ProofKit
import Derived.Lib.Hide
import Derived.Deep.QuietTactic
import Derived.BigQuiet
import Derived.Shelf.Abstract
namespace Go.Proofs.YtfafoognjodeiaaDoor
open Go.RowKit
open Nw
set_option linter.unusedVariables false

theorem ret_bool {a b : Bool} (h : a = b) : Ending.returned (.bool a) = .returned (.bool b) := by rw [h]
theorem ret_int {k : IntKind} {a b : Int} (h : a = b) : Ending.returned (.int k a) = .returned (.int k b) := by rw [h]
theorem len_eq (s : ByteArray) : s.data.toList.length = s.size := rfl
theorem getd (s : ByteArray) (k : Nat) (h : k < s.size) : s.data.toList.getD k 0 = s[k] := by
  rw [List.getD_eq_getElem?_getD, List.getElem?_eq_getElem (by rw [len_eq]; exact h)]; rfl

/-- A function value that tells bytes: at w it gives p, and turns nothing. -/
def Tells (g : Nat) (lb : Array Value) (p : UInt8 → Bool) (w : World) : Prop :=
  ∀ c : UInt8, Calls Tryd.prog g (#[.int .u8 c.toNat] ++ lb) w fun e w' => e = .returned (.bool (p c)) ∧ w = w'

end Go.Proofs.YtfafoognjodeiaaDoor
