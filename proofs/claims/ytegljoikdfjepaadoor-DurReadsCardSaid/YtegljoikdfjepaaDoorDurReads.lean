/- DurReads: for every text, Parse returns what the document's own answer returns. -/
import Derived.Test.YtegljoikdfjepaaDoorDurAwake
import Derived.Test.YtegljoikdfjepaaDoorRefDur3
namespace Go.Proofs.YtegljoikdfjepaaDoor
open Go.RowKit
open Dg
set_option linter.unusedVariables false
set_option maxHeartbeats 2000000 in
theorem DurReads_walk (s : ByteArray) (hs : s.size ≤ maxLen) (w : World) :
    Calls Tryd.prog 3 #[.string s] w fun e w' => e = .returned (.bool true) ∧ Below w.heap.size w w' := by
  have hs' := hs
  unfold maxLen at hs'
  by_cases hlen : 2000 < s.size
  · have hlen' : (2000 : Int) < (s.size : Int) := by omega
    go_enter Tryd.func3, Tryd.ntmps3
    go_wp2_with (go_at_call 6; refine (dawake_any _).mono ?_; rintro e w5 ⟨rfl, hb5⟩)
    go_ret
    exact ⟨rfl, hb5⟩
  · have hlen' : ¬ (2000 : Int) < (s.size : Int) := by omega
    go_enter Tryd.func3, Tryd.ntmps3
    go_wp2_with fail
    refine (DParse_any s _ hs).mono ?_
    rintro e w1 ⟨rfl, hb1⟩
    go_wp2_with fail
    refine (RDParse_any s _ hs).mono ?_
    rintro e w2 ⟨rfl, hb2⟩
    have b2 := belowNext hb1 hb2
    clear hb1 hb2
    go_wp2_with fail
    refine (dawake_any _).mono ?_
    rintro e w3 ⟨rfl, hb3⟩
    have b3 := belowNext b2 hb3
    clear b2 hb3
    go_wp2
    go_ret
    exact ⟨rfl, b3⟩
end Go.Proofs.YtegljoikdfjepaaDoor
