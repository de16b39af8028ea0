/- Chapter 6's examples. -/
import Derived.Test.YtidagmecghbaeaaDoorQuoWrite
import Derived.Test.YtidagmecghbaeaaDoorQuoScan2
namespace Go.Proofs.YtidagmecghbaeaaDoor
open Go.RowKit
open Q6
set_option linter.unusedVariables false
theorem belowNext {w w1 w2 : World} (h : Below w.heap.size w w1) (g : Below w1.heap.size w1 w2) : Below w.heap.size w w2 := h.trans (g.mono h.size)
theorem ex_scan : scanV [39, 105, 116, 39, 39, 115, 39, 32, 120] 0 = [105, 116, 39, 115] ∧ scanN [39, 105, 116, 39, 39, 115, 39, 32, 120] 0 = 7 ∧ scanE [39, 105, 116, 39, 39, 115, 39, 32, 120] 0 = 0 := by decide +kernel
theorem ex_double : dblL [97, 34, 98] = [34, 97, 92, 34, 98, 34] := by decide +kernel
theorem ex_web : writeL [119, 101, 98] false = [119, 101, 98] := by decide +kernel
theorem ex_ab : writeL [97, 58, 32, 98] false = [34, 97, 58, 32, 98, 34] := by decide +kernel
set_option maxHeartbeats 1000000 in
theorem awake_any (w : World) : Calls Tryd.prog 5 #[] w fun e w' => e = .returned (.bool true) ∧ Below w.heap.size w w' := by
  go_enter Tryd.func5, Tryd.ntmps5
  go_wp2_with fail
  refine (Scan_any ⟨#[39, 105, 116, 39, 39, 115, 39, 32, 120]⟩ 0 _ (by decide) (by decide) (by decide) ⟨#[105, 116, 39, 115]⟩ 7 0 ex_scan.1 ex_scan.2.1 ex_scan.2.2).mono ?_
  rintro e w1 ⟨rfl, hb1⟩
  go_wp2_with fail
  refine (Double_any ⟨#[97, 34, 98]⟩ _ (by decide) ⟨#[34, 97, 92, 34, 98, 34]⟩ ex_double).mono ?_
  rintro e w2 ⟨rfl, hb2⟩
  have b2 := belowNext hb1 hb2
  clear hb1 hb2
  go_wp2_with fail
  refine (Write_any ⟨#[119, 101, 98]⟩ false _ (by decide) ⟨#[119, 101, 98]⟩ ex_web).mono ?_
  rintro e w3 ⟨rfl, hb3⟩
  have b3 := belowNext b2 hb3
  clear b2 hb3
  go_wp2_with fail
  refine (Write_any ⟨#[97, 58, 32, 98]⟩ false _ (by decide) ⟨#[34, 97, 58, 32, 98, 34]⟩ ex_ab).mono ?_
  rintro e w4 ⟨rfl, hb4⟩
  have b4 := belowNext b3 hb4
  clear b3 hb4
  go_wp2
  go_ret
  exact ⟨rfl, b4⟩
end Go.Proofs.YtidagmecghbaeaaDoor
