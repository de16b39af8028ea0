/- Chapter 15's laws for the program. -/
import Derived.Test.YtfafoognjodeiaaDoorWrdSpl
import Derived.Test.YtfafoognjodeiaaDoorWrdJoi
import Derived.Test.YtfafoognjodeiaaDoorLawWrd2
namespace Go.Proofs.YtfafoognjodeiaaDoor
open Go.RowKit Go.Sort
open Nw W15
set_option linter.unusedVariables false
theorem someMax_keep : ∀ w w', SomeMax w → Below w.heap.size w w' → SomeMax w' := fun _ _ h hb => h.keep hb
theorem bare15 (s : ByteArray) (W : World) (_ : SomeMax W) (hs : s.size ≤ 200000) : Calls Tryd.prog 10 #[.string s] W fun e w' => e = .returned (.bool (bareB s.data.toList)) ∧ Below W.heap.size W w' := by
  refine (Bare15_any s W (by omega)).mono ?_
  rintro e w' ⟨rfl, rfl⟩
  exact ⟨rfl, Below.refl _ _⟩
theorem WordSplits_row (s : ByteArray) (w : World) (hw : SomeMax w) (hs : s.size ≤ maxLen) : Calls Tryd.prog 3 #[.string s] w fun e w' => e = .returned (.bool true) ∧ Below w.heap.size w w' :=
  WordSplits_walk SomeMax someMax_keep (fun s W _ hs => Split15_any s W hs) (fun v l W h h1 h2 => Join15_any v l W h h1 h2) bare15 s hs w hw
theorem WordJoins_row (l : List L8) (v : Value) (w : World) (hw : SomeMax w) (hl : Rd w v l) (_ : ∀ x ∈ l, x.length ≤ maxLen) : Calls Tryd.prog 4 #[v] w fun e w' => e = .returned (.bool true) ∧ Below w.heap.size w w' :=
  WordJoins_walk SomeMax someMax_keep (fun s W _ hs => Split15_any s W hs) (fun v l W h h1 h2 => Join15_any v l W h h1 h2) l v w hw hl
theorem WordBack_row (s : ByteArray) (l : List L8) (v : Value) (w : World) (hw : SomeMax w) (hs : s.size ≤ maxLen) (hl : Rd w v l) (_ : ∀ x ∈ l, x.length ≤ maxLen) : Calls Tryd.prog 5 #[v, .string s] w fun e w' => e = .returned (.bool true) ∧ Below w.heap.size w w' :=
  WordBack_walk SomeMax someMax_keep (fun s W _ hs => Split15_any s W hs) (fun v l W h h1 h2 => Join15_any v l W h h1 h2) l v s hs w hw hl
end Go.Proofs.YtfafoognjodeiaaDoor
