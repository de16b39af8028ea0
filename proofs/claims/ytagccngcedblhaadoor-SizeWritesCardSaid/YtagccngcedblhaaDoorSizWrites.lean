/- SizeWrites: for every number, Text and Unit return what the document's own answer returns. -/
import Derived.Test.YtagccngcedblhaaDoorSizAwake
import Derived.Test.YtagccngcedblhaaDoorRefSiz1
namespace Go.Proofs.YtagccngcedblhaaDoor
open Go.RowKit
open Dg
set_option linter.unusedVariables false
theorem ZUnit_q (n u : Int) (w : World) (h1 : -9223372036854775808 ≤ n) (h2 : n ≤ 9223372036854775807) (hu : zU n = u) :
    Calls Tryd.prog 11 #[.int .i64 n] w fun e w' => e = .returned (.int .i64 u) ∧ w = w' := by
  subst hu; exact ZUnit_any n w h1 h2
theorem RZText_q (n : Int) (q : ByteArray) (w : World) (h1 : -9223372036854775808 ≤ n) (h2 : n ≤ 9223372036854775807) (hq : zT n = q.data.toList) :
    Calls Tryd.prog 10 #[.int .i64 n] w fun e w' => e = .returned (.string q) ∧ Below w.heap.size w w' :=
  (RZText_any n w h1 h2).mono fun e w' ⟨g1, g2⟩ => ⟨by rw [g1, mk_of hq], g2⟩
set_option maxHeartbeats 2000000 in
theorem SizeWrites_walk (n : Int) (hn : (Lit.int .i64 n).wf = true) (w : World) (hL : Let4 w) :
    Calls Tryd.prog 4 #[.int .i64 n] w fun e w' => e = .returned (.bool true) ∧ Below w.heap.size w w' := by
  have hx : -9223372036854775808 ≤ n ∧ n ≤ 9223372036854775807 := by simpa [Lit.wf, IntKind.min, IntKind.max, IntKind.signed, IntKind.bits] using hn
  obtain ⟨h1, h2⟩ := hx
  clear hn
  have HL := Lib.hid hL
  clear hL
  obtain ⟨q, hq⟩ : ∃ q : ByteArray, zT n = q.data.toList := ⟨⟨(zT n).toArray⟩, by simp⟩
  obtain ⟨u, hu⟩ : ∃ u, zU n = u := ⟨_, rfl⟩
  have HQ := Lib.hid hq
  have HU := Lib.hid hu
  clear hq hu
  go_enter Tryd.func4, Tryd.ntmps4
  go_wp2_with fail
  refine (ZText_q n q _ HL.out h1 h2 HQ.out).mono ?_
  rintro e w1 ⟨rfl, hb1⟩
  go_wp2_with fail
  refine (RZText_q n q _ h1 h2 HQ.out).mono ?_
  rintro e w2 ⟨rfl, hb2⟩
  have b2 := belowNext hb1 hb2
  clear hb1 hb2
  go_wp2_with fail
  refine (ZUnit_q n u _ h1 h2 HU.out).mono ?_
  rintro e w3 ⟨rfl, rfl⟩
  go_wp2_with fail
  refine (RUnit_q n u _ h1 h2 HU.out).mono ?_
  rintro e w3 ⟨rfl, rfl⟩
  go_wp2_with fail
  refine (zawake_any _ (HL.out.keep b2)).mono ?_
  rintro e w3 ⟨rfl, hb3⟩
  have b3 := belowNext b2 hb3
  clear b2 hb3
  go_wp2
  go_ret
  exact ⟨rfl, b3⟩
end Go.Proofs.YtagccngcedblhaaDoor
