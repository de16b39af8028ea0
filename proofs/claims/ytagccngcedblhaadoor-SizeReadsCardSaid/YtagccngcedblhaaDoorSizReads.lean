/- SizeReads: for every text, Parse returns what the document's own answer returns. -/
import Derived.Test.YtagccngcedblhaaDoorSizAwake
import Derived.Test.YtagccngcedblhaaDoorRefSiz2
namespace Go.Proofs.YtagccngcedblhaaDoor
open Go.RowKit
open Dg
set_option linter.unusedVariables false
set_option maxHeartbeats 2000000 in
theorem SizeReads_walk (s : ByteArray) (hs : s.size ≤ maxLen) (w : World) (hL : Let4 w) :
    Calls Tryd.prog 3 #[.string s] w fun e w' => e = .returned (.bool true) ∧ Below w.heap.size w w' := by
  have hs' := hs
  unfold maxLen at hs'
  have HL := Lib.hid hL
  clear hL
  by_cases hlen : 2000 < s.size
  · have hlen' : (2000 : Int) < (s.size : Int) := by omega
    go_enter Tryd.func3, Tryd.ntmps3
    go_wp2_with (go_at_call 6; refine (zawake_any _ HL.out).mono ?_; rintro e w5 ⟨rfl, hb5⟩)
    go_ret
    exact ⟨rfl, hb5⟩
  · have hlen' : ¬ (2000 : Int) < (s.size : Int) := by omega
    obtain ⟨n, hn⟩ : ∃ n, zN s.data.toList = n := ⟨_, rfl⟩
    obtain ⟨e0, he⟩ : ∃ e0, zE s.data.toList = e0 := ⟨_, rfl⟩
    have HN := Lib.hid hn
    have HE := Lib.hid he
    have HR := Lib.hid (RZParse_any s)
    rw [hn, he] at HR
    clear hn he
    go_enter Tryd.func3, Tryd.ntmps3
    go_wp2_with fail
    refine (ZParse_q s n e0 _ HL.out hs HN.out HE.out).mono ?_
    rintro e w1 ⟨rfl, hb1⟩
    go_wp2_with fail
    refine (HR.out _ hs).mono ?_
    rintro e w2 ⟨rfl, rfl⟩
    go_wp2_with fail
    refine (zawake_any _ (HL.out.keep hb1)).mono ?_
    rintro e w3 ⟨rfl, hb3⟩
    have b3 := belowNext hb1 hb3
    clear hb1 hb3
    go_wp2
    go_ret
    exact ⟨rfl, b3⟩
end Go.Proofs.YtagccngcedblhaaDoor
