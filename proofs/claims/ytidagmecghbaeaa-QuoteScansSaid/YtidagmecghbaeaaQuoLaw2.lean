/- QuoteScans: at every index of every text, Scan answers what the document's own answer says. -/
import Derived.Test.YtidagmecghbaeaaRefScan
import Derived.Test.YtidagmecghbaeaaQuoAwake
namespace Go.Proofs.Ytidagmecghbaeaa
open Go.RowKit
open Q6
set_option linter.unusedVariables false
set_option maxHeartbeats 2000000 in
theorem QuoteScans_walk (s : ByteArray) (i : Int) (hs : s.size ≤ maxLen) (hi : (Lit.int .i64 i).wf = true) (w : World) :
    Calls Try.prog 3 #[.string s, .int .i64 i] w fun e w' => e = .returned (.bool true) ∧ Below w.heap.size w w' := by
  have hx : -9223372036854775808 ≤ i ∧ i ≤ 9223372036854775807 := by simpa [Lit.wf, IntKind.min, IntKind.max, IntKind.signed, IntKind.bits] using hi
  obtain ⟨i1, i2⟩ := hx
  clear hi
  unfold maxLen at hs
  by_cases hlen : (3000 : Int) < (s.size : Int)
  · go_enter Try.func3, Try.ntmps3
    go_wp2_with (go_at_call 4; refine (awake_any _).mono ?_; rintro e w5 ⟨rfl, hb5⟩)
    go_ret
    exact ⟨rfl, hb5⟩
  · have hs2 : s.size ≤ 100000 := by omega
    obtain ⟨q, hq⟩ : ∃ q : ByteArray, scanV s.data.toList i = q.data.toList := ⟨⟨(scanV s.data.toList i).toArray⟩, by simp⟩
    obtain ⟨x, hx⟩ : ∃ x, scanN s.data.toList i = x := ⟨_, rfl⟩
    obtain ⟨y, hy⟩ : ∃ y, scanE s.data.toList i = y := ⟨_, rfl⟩
    have HC := Lib.hid (fun w0 => Scan_any s i w0 hs2 i1 i2 q x y hq hx hy)
    have HRC := Lib.hid (fun w0 => RScan_any s i w0 hs2 i1 i2 q x y hq hx hy)
    clear hq hx hy
    go_enter Try.func3, Try.ntmps3
    go_wp2_with fail
    refine (HC.out _).mono ?_
    rintro e w1 ⟨rfl, hb1⟩
    go_wp2_with fail
    refine (HRC.out _).mono ?_
    rintro e w2 ⟨rfl, hb2⟩
    have b2 := Lib.hid (belowNext hb1 hb2)
    clear hb1 hb2
    go_wp2_with fail
    refine (awake_any _).mono ?_
    rintro e w3 ⟨rfl, hb3⟩
    have b3 := Lib.hid (belowNext b2.out hb3)
    clear hb3
    go_wp2
    go_ret
    exact ⟨rfl, b3.out⟩
end Go.Proofs.Ytidagmecghbaeaa
