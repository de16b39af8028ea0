/- DurReckons: for all numbers, Text, Least, Most, Add and Times return what the document's own answers return. -/
import Derived.Test.YtegljoikdfjepaaDoorDurAwake
import Derived.Test.YtegljoikdfjepaaDoorDurNums
import Derived.Test.YtegljoikdfjepaaDoorRefDur4
namespace Go.Proofs.YtegljoikdfjepaaDoor
open Go.RowKit
open Dg
set_option linter.unusedVariables false
set_option maxHeartbeats 4000000 in
theorem DurReckons_walk (a b : Int) (ha : (Lit.int .i64 a).wf = true) (hb : (Lit.int .i64 b).wf = true) (w : World) :
    Calls Tryd.prog 4 #[.int .i64 a, .int .i64 b] w fun e w' => e = .returned (.bool true) ∧ Below w.heap.size w w' := by
  have hx : -9223372036854775808 ≤ a ∧ a ≤ 9223372036854775807 := by simpa [Lit.wf, IntKind.min, IntKind.max, IntKind.signed, IntKind.bits] using ha
  have hy : -9223372036854775808 ≤ b ∧ b ≤ 9223372036854775807 := by simpa [Lit.wf, IntKind.min, IntKind.max, IntKind.signed, IntKind.bits] using hb
  obtain ⟨h1, h2⟩ := hx
  obtain ⟨h3, h4⟩ := hy
  clear ha hb
  obtain ⟨x, hx⟩ : ∃ x, nearI a = x := ⟨_, rfl⟩
  obtain ⟨y, hy⟩ : ∃ y, nearI b = y := ⟨_, rfl⟩
  have bx := nearI_bd a
  have byd := nearI_bd b
  rw [hx] at bx
  rw [hy] at byd
  obtain ⟨x0, x1⟩ := bx
  obtain ⟨y0, y1⟩ := byd
  have HX := Lib.hid hx
  have HY := Lib.hid hy
  have HA : Hid (nearI (nearI a + nearI b) = nearI (x + y)) := Lib.hid (by rw [hx, hy])
  clear hx hy
  by_cases hba : b < a
  · have e1 : Hid (leastI a b = b) := Lib.hid (if_pos hba)
    have e2 : Hid (mostI a b = a) := Lib.hid (if_pos hba)
    go_enter Tryd.func4, Tryd.ntmps4
    go_wp2_with fail
    refine (DText_any a _ h1 h2).mono ?_
    rintro e w1 ⟨rfl, hb1⟩
    go_wp2_with fail
    refine (RDText_any a _ h1 h2).mono ?_
    rintro e w2 ⟨rfl, hb2⟩
    have b2 := belowNext hb1 hb2
    clear hb1 hb2
    go_wp2_with fail
    refine (Least_any a b _ h1 h2 h3 h4).mono ?_
    rintro e w3 ⟨rfl, rfl⟩
    rw [e1.out]
    go_wp2_with fail
    refine (Most_any a b _ h1 h2 h3 h4).mono ?_
    rintro e w3 ⟨rfl, rfl⟩
    rw [e2.out]
    go_wp2_with fail
    refine (Add_any a b _ h1 h2 h3 h4).mono ?_
    rintro e w3 ⟨rfl, rfl⟩
    rw [HA.out]
    go_wp2_with fail
    refine (Near_q _ a x _ rfl h1 h2 HX.out).mono ?_
    rintro e w3 ⟨rfl, rfl⟩
    go_wp2_with fail
    refine (Near_q _ b y _ rfl h3 h4 HY.out).mono ?_
    rintro e w3 ⟨rfl, rfl⟩
    go_wp2_with fail
    refine (Near_q _ (x + y) (nearI (x + y)) _ rfl (by omega) (by omega) rfl).mono ?_
    rintro e w3 ⟨rfl, rfl⟩
    go_wp2_with fail
    refine (Times_any a b _ h1 h2 h3 h4).mono ?_
    rintro e w3 ⟨rfl, rfl⟩
    go_wp2_with fail
    refine (RTimes_any a b _ h1 h2 h3 h4).mono ?_
    rintro e w3 ⟨rfl, rfl⟩
    go_wp2_with fail
    refine (dawake_any _).mono ?_
    rintro e w4 ⟨rfl, hb4⟩
    have b4 := belowNext b2 hb4
    clear b2 hb4
    go_wp2
    go_ret
    exact ⟨rfl, b4⟩
  · have e1 : Hid (leastI a b = a) := Lib.hid (if_neg hba)
    have e2 : Hid (mostI a b = b) := Lib.hid (if_neg hba)
    go_enter Tryd.func4, Tryd.ntmps4
    go_wp2_with fail
    refine (DText_any a _ h1 h2).mono ?_
    rintro e w1 ⟨rfl, hb1⟩
    go_wp2_with fail
    refine (RDText_any a _ h1 h2).mono ?_
    rintro e w2 ⟨rfl, hb2⟩
    have b2 := belowNext hb1 hb2
    clear hb1 hb2
    go_wp2_with fail
    refine (Least_any a b _ h1 h2 h3 h4).mono ?_
    rintro e w3 ⟨rfl, rfl⟩
    rw [e1.out]
    go_wp2_with fail
    refine (Most_any a b _ h1 h2 h3 h4).mono ?_
    rintro e w3 ⟨rfl, rfl⟩
    rw [e2.out]
    go_wp2_with fail
    refine (Add_any a b _ h1 h2 h3 h4).mono ?_
    rintro e w3 ⟨rfl, rfl⟩
    rw [HA.out]
    go_wp2_with fail
    refine (Near_q _ a x _ rfl h1 h2 HX.out).mono ?_
    rintro e w3 ⟨rfl, rfl⟩
    go_wp2_with fail
    refine (Near_q _ b y _ rfl h3 h4 HY.out).mono ?_
    rintro e w3 ⟨rfl, rfl⟩
    go_wp2_with fail
    refine (Near_q _ (x + y) (nearI (x + y)) _ rfl (by omega) (by omega) rfl).mono ?_
    rintro e w3 ⟨rfl, rfl⟩
    go_wp2_with fail
    refine (Times_any a b _ h1 h2 h3 h4).mono ?_
    rintro e w3 ⟨rfl, rfl⟩
    go_wp2_with fail
    refine (RTimes_any a b _ h1 h2 h3 h4).mono ?_
    rintro e w3 ⟨rfl, rfl⟩
    go_wp2_with fail
    refine (dawake_any _).mono ?_
    rintro e w4 ⟨rfl, hb4⟩
    have b4 := belowNext b2 hb4
    clear b2 hb4
    go_wp2
    go_ret
    exact ⟨rfl, b4⟩
end Go.Proofs.YtegljoikdfjepaaDoor
