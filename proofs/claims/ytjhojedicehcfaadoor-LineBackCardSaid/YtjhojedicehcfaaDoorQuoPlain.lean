/- The contracts of Plain and Row. -/
import Derived.Test.YtjhojedicehcfaaDoorQuoEvery
namespace Go.Proofs.YtjhojedicehcfaaDoor
open Go.RowKit
open Q6
set_option linter.unusedVariables false
theorem tells_good : Tells3 53 goodF := ⟨enters_of Tryd.func53 (by kernel_rfl) rfl, single1_any⟩
theorem bytes_of {s : ByteArray} {l : Array UInt8} (h : s.data.toList = l.toList) : s = ⟨l⟩ := by
  cases s; rename_i x; cases x; cases l; simp at h; simp [h]
theorem every_q (s : ByteArray) (g : Nat) (F : UInt8 → UInt8 → UInt8 → Bool) (b : Bool) (w : World) (hs : s.size ≤ maxLen) (T : Tells3 g F) (h : everyB F s.data.toList = b) :
    Calls Tryd.prog 52 #[.string s, .func (.func g) #[] #[]] w fun e w' => e = .returned (.bool b) ∧ w = w' := by
  subst h; exact every_any s g F w hs T
end Go.Proofs.YtjhojedicehcfaaDoor
