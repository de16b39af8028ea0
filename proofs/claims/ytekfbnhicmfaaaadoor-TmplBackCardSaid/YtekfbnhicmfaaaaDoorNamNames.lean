/- Contracts of Service, Variable and Project, and of the reference's. -/
import Derived.Test.YtekfbnhicmfaaaaDoorNamKinds
import Derived.Below
import Derived.Laws.EntriesVeiled
namespace Go.Proofs.YtekfbnhicmfaaaaDoor
open Go.RowKit
open Nw
set_option linter.unusedVariables false

set_option maxHeartbeats 1600000 in
theorem Variable_any (s : ByteArray) (w : World) (hs : s.size ≤ maxLen) :
    Calls Tryd.prog 35 #[.string s] w fun e w' => e = .returned (.bool (nm v1 v2 s.data.toList)) ∧ Below w.heap.size w w' := by
  have HS := Lib.hid hs
  clear hs
  have e1 : ∀ args w, (callFunc 44 args).run Tryd.prog w = .ok (.enter 44 args) w := enters_of Tryd.func44 (by kernel_rfl) rfl
  have e2 : ∀ args w, (callFunc 48 args).run Tryd.prog w = .ok (.enter 48 args) w := enters_of Tryd.func48 (by kernel_rfl) rfl
  have HC := fun (W : World) (hc : W.cell? ⟨w.heap.size, 0, none⟩ = some (.func (.func 44) #[] #[])) =>
    isName_any s v1 v2 44 48 #[] #[.pointer (some ⟨w.heap.size, 0, none⟩)] W HS.out e1 e2 (fun c => v1_any c W) (fun c => v2_any c w.heap.size W hc)
  have HCC := Lib.hid HC
  clear HC e1 e2
  go_enter Tryd.func35, Tryd.ntmps35
  go_wp2_with (go_at_call 47; refine (HCC.out _ (by simp)).mono ?_; rintro e w' ⟨rfl, rfl⟩)
  go_ret
  refine ⟨rfl, ?_⟩
  first | exact ((Below.refl _ _).alloc (Nat.le_refl _) _).setCell (Nat.le_refl _) _ | exact (Below.refl _ _).alloc (Nat.le_refl _) _

end Go.Proofs.YtekfbnhicmfaaaaDoor
