/- DigitReads: for every text and every bound, Parse, Count and Milli return what the document's own answers return. -/
import Derived.Test.YtioplkdmkdhnfaaDigAwake
import Derived.Test.YtioplkdmkdhnfaaRefDig4
namespace Go.Proofs.Ytioplkdmkdhnfaa
open Go.RowKit
open Dg
set_option linter.unusedVariables false
theorem Below.same {w w1 w2 : World} (h : Below w.heap.size w w1) (g : Below w1.heap.size w1 w2) : Below w.heap.size w w2 := h.trans (g.mono h.size)
set_option maxHeartbeats 2000000 in
theorem DigitReads_walk (s : ByteArray) (most : Int) (hs : s.size ≤ maxLen) (hn : (Lit.int .i64 most).wf = true) (w : World) :
    Calls Try.prog 4 #[.string s, .int .i64 most] w fun e w' => e = .returned (.bool true) ∧ Below w.heap.size w w' := by
  have hx : -9223372036854775808 ≤ most ∧ most ≤ 9223372036854775807 := by simpa [Lit.wf, IntKind.min, IntKind.max, IntKind.signed, IntKind.bits] using hn
  obtain ⟨h1, h2⟩ := hx
  clear hn
  have hs' := hs
  unfold maxLen at hs'
  by_cases hlen : 4000 < s.size
  · have hlen' : (4000 : Int) < (s.size : Int) := by omega
    go_enter Try.func4, Try.ntmps4
    go_wp2_with (go_at_call 10; refine (awake_any _).mono ?_; rintro e w5 ⟨rfl, hb5⟩)
    go_ret
    exact ⟨rfl, hb5⟩
  · have hlen' : ¬ (4000 : Int) < (s.size : Int) := by omega
    have hm : s.size ≤ 1048576 := by omega
    go_enter Try.func4, Try.ntmps4
    go_wp2_with fail
    refine (Parse_any s _ hs).mono ?_
    rintro e w1 ⟨rfl, rfl⟩
    go_wp2_with fail
    refine (Count_any s most _ hs h2 h1).mono ?_
    rintro e w2 ⟨rfl, rfl⟩
    go_wp2_with fail
    refine (Milli_any s _ hm).mono ?_
    rintro e w3 ⟨rfl, hb3⟩
    go_wp2_with fail
    refine (RParse_any s _ hs).mono ?_
    rintro e w4 ⟨rfl, rfl⟩
    go_wp2_with fail
    refine (RCount_any s most _ hs h2 h1).mono ?_
    rintro e w5 ⟨rfl, rfl⟩
    go_wp2_with fail
    refine (RMilli_any s _ hm).mono ?_
    rintro e w6 ⟨rfl, hb6⟩
    have b6 := Below.same hb3 hb6
    clear hb3 hb6
    go_wp2_with fail
    refine (awake_any _).mono ?_
    rintro e w7 ⟨rfl, hb7⟩
    have b7 := Below.same b6 hb7
    clear b6 hb7
    go_wp2
    go_ret
    exact ⟨rfl, b7⟩
end Go.Proofs.Ytioplkdmkdhnfaa
