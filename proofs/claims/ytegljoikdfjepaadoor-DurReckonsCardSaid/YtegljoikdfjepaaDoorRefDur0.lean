/- The document's own tables of units: longs, names. -/
import Derived.Test.YtegljoikdfjepaaDoorDigSmall
import Derived.ChangeAlike
import Derived.Below
namespace Go.Proofs.YtegljoikdfjepaaDoor
open Go.RowKit
open Dg
set_option linter.unusedVariables false
def longsV : Value := .agg #[.int .i64 3600000, .int .i64 60000, .int .i64 1000, .int .i64 1]
def namesV : Value := .agg #[.string ⟨#[104]⟩, .string ⟨#[109]⟩, .string ⟨#[115]⟩, .string ⟨#[109, 115]⟩]
set_option maxHeartbeats 1000000 in
theorem longs_any (w : World) :
    Calls Tryd.prog 21 #[] w fun e w' => e = .returned longsV ∧ Below w.heap.size w w' := by
  go_enter Tryd.func21, Tryd.ntmps21
  go_wp2
  refine bodyPost_ret (v := longsV) (by simp [results, Tryd.results21, go_sem, longsV]) rfl ⟨rfl, (Below.refl _ _).alloc (Nat.le_refl _) _⟩
set_option maxHeartbeats 1000000 in
theorem names_any (w : World) :
    Calls Tryd.prog 23 #[] w fun e w' => e = .returned namesV ∧ Below w.heap.size w w' := by
  go_enter Tryd.func23, Tryd.ntmps23
  go_wp2
  refine bodyPost_ret (v := namesV) (by simp [results, Tryd.results23, go_sem, namesV]) rfl ⟨rfl, (Below.refl _ _).alloc (Nat.le_refl _) _⟩
end Go.Proofs.YtegljoikdfjepaaDoor
