/- Contracts of Service, Variable and Project, and of the reference's. -/
import Derived.Test.YtbbijhgiddbonaaNamKinds
import Derived.Below
import Derived.Laws.EntriesVeiled
namespace Go.Proofs.Ytbbijhgiddbonaa
open Go.RowKit
open Nw
set_option linter.unusedVariables false

set_option maxHeartbeats 1600000 in
theorem Service_any (s : ByteArray) (w : World) (hs : s.size ≤ maxLen) :
    Calls Try.prog 7 #[.string s] w fun e w' => e = .returned (.bool (nm s1 s2 s.data.toList)) ∧ Below w.heap.size w w' := by
  have HS := Lib.hid hs
  clear hs
  have e1 : ∀ args w, (callFunc 26 args).run Try.prog w = .ok (.enter 26 args) w := enters_of Try.func26 (by kernel_rfl) rfl
  have e2 : ∀ args w, (callFunc 31 args).run Try.prog w = .ok (.enter 31 args) w := enters_of Try.func31 (by kernel_rfl) rfl
  have HC := fun (W : World) (hc : W.cell? ⟨w.heap.size, 0, none⟩ = some (.func (.func 26) #[] #[])) =>
    isName_any s s1 s2 26 31 #[] #[.pointer (some ⟨w.heap.size, 0, none⟩)] W HS.out e1 e2 (fun c => s1_any c W) (fun c => s2_any c w.heap.size W hc)
  have HCC := Lib.hid HC
  clear HC e1 e2
  go_enter Try.func7, Try.ntmps7
  go_wp2_with (go_at_call 30; refine (HCC.out _ (by simp)).mono ?_; rintro e w' ⟨rfl, rfl⟩)
  go_ret
  refine ⟨rfl, ?_⟩
  first | exact ((Below.refl _ _).alloc (Nat.le_refl _) _).setCell (Nat.le_refl _) _ | exact (Below.refl _ _).alloc (Nat.le_refl _) _

set_option maxHeartbeats 1600000 in
theorem Variable_any (s : ByteArray) (w : World) (hs : s.size ≤ maxLen) :
    Calls Try.prog 8 #[.string s] w fun e w' => e = .returned (.bool (nm v1 v2 s.data.toList)) ∧ Below w.heap.size w w' := by
  have HS := Lib.hid hs
  clear hs
  have e1 : ∀ args w, (callFunc 32 args).run Try.prog w = .ok (.enter 32 args) w := enters_of Try.func32 (by kernel_rfl) rfl
  have e2 : ∀ args w, (callFunc 33 args).run Try.prog w = .ok (.enter 33 args) w := enters_of Try.func33 (by kernel_rfl) rfl
  have HC := fun (W : World) (hc : W.cell? ⟨w.heap.size, 0, none⟩ = some (.func (.func 32) #[] #[])) =>
    isName_any s v1 v2 32 33 #[] #[.pointer (some ⟨w.heap.size, 0, none⟩)] W HS.out e1 e2 (fun c => v1_any c W) (fun c => v2_any c w.heap.size W hc)
  have HCC := Lib.hid HC
  clear HC e1 e2
  go_enter Try.func8, Try.ntmps8
  go_wp2_with (go_at_call 30; refine (HCC.out _ (by simp)).mono ?_; rintro e w' ⟨rfl, rfl⟩)
  go_ret
  refine ⟨rfl, ?_⟩
  first | exact ((Below.refl _ _).alloc (Nat.le_refl _) _).setCell (Nat.le_refl _) _ | exact (Below.refl _ _).alloc (Nat.le_refl _) _

set_option maxHeartbeats 1600000 in
theorem Project_any (s : ByteArray) (w : World) (hs : s.size ≤ maxLen) :
    Calls Try.prog 9 #[.string s] w fun e w' => e = .returned (.bool (nm p1 p2 s.data.toList)) ∧ Below w.heap.size w w' := by
  have HS := Lib.hid hs
  clear hs
  have e1 : ∀ args w, (callFunc 34 args).run Try.prog w = .ok (.enter 34 args) w := enters_of Try.func34 (by kernel_rfl) rfl
  have e2 : ∀ args w, (callFunc 35 args).run Try.prog w = .ok (.enter 35 args) w := enters_of Try.func35 (by kernel_rfl) rfl
  have HC := fun (W : World) (hc : W.cell? ⟨w.heap.size, 0, none⟩ = some (.func (.func 34) #[] #[])) =>
    isName_any s p1 p2 34 35 #[] #[.pointer (some ⟨w.heap.size, 0, none⟩)] W HS.out e1 e2 (fun c => p1_any c W) (fun c => p2_any c w.heap.size W hc)
  have HCC := Lib.hid HC
  clear HC e1 e2
  go_enter Try.func9, Try.ntmps9
  go_wp2_with (go_at_call 30; refine (HCC.out _ (by simp)).mono ?_; rintro e w' ⟨rfl, rfl⟩)
  go_ret
  refine ⟨rfl, ?_⟩
  first | exact ((Below.refl _ _).alloc (Nat.le_refl _) _).setCell (Nat.le_refl _) _ | exact (Below.refl _ _).alloc (Nat.le_refl _) _
end Go.Proofs.Ytbbijhgiddbonaa
