/- A line that came in by value, opened. -/
import Derived.Test.YtjhojedicehcfaaDoorLinLaw2
import Derived.Lib.SmallJoins
import Derived.ProofKit
import Derived.OpenShut
namespace Go.Proofs.YtjhojedicehcfaaDoor
open Go.ChangeShapes Go.WideShapes Go.RowKit Go.Joins
open Q6
set_option linter.unusedVariables false
theorem open_line {H : Type} {enc : TypeId × Value → H} {W : World} {base b0 : Nat} {spare : Nat → Bool} {held : Bool} {r : Reach} {v : Value} {d : DataW H} {p : List MemPlace}
    (hv : Value.okWide Tryd.prog W r b0 34 v) (h : DataW.Trod enc Tryd.prog W base spare held 34 v d p) :
    ∃ (no ind : Int) (t : ByteArray), v = .agg #[.int .i64 no, .int .i64 ind, .string t] ∧ (Lit.int .i64 ind).wf = true ∧ t.size ≤ maxLen := by
  obtain ⟨v0, v1, v2, y0, y1, y2, n, rfl, -, -, t0, t1, t2⟩ := open_agg3 Tryd.underlying34 (by kernel_rfl) (by kernel_rfl) hv h
  obtain ⟨a, h0, -, -⟩ := DataW.trod_int Tryd.underlying3 t0
  obtain ⟨b, h1, -, hb⟩ := DataW.trod_int Tryd.underlying3 t1
  obtain ⟨c, h2, -, hc⟩ := DataW.trod_string Tryd.underlying9 t2
  injection h0 with h0
  injection h1 with h1
  injection h2 with h2
  subst h0; subst h1; subst h2
  exact ⟨a, b, c, rfl, hb, hc⟩
end Go.Proofs.YtjhojedicehcfaaDoor
