/- QuoteAsks: whether any text may stand plain, and how it is written, is as the document's own answers say. -/
import Derived.Test.YtidagmecghbaeaaDoorRefQuote
import Derived.Test.YtidagmecghbaeaaDoorRefPlain
import Derived.Test.YtidagmecghbaeaaDoorQuoLaw3
namespace Go.Proofs.YtidagmecghbaeaaDoor
open Go.RowKit
open Q6
set_option linter.unusedVariables false
set_option maxHeartbeats 4000000 in
theorem asks_true_true (s : ByteArray) (w : World) (HW : Hid (SomeMax w)) (h3 : ¬ (3000 : Int) < (s.size : Int)) (p : Bool) (HP : Hid (plainB s.data.toList = p)) (HR : Hid (rowB s.data.toList = true)) (D q T : ByteArray) (b : Bool) (HD : Hid (dblL s.data.toList = D.data.toList)) (HQ : Hid (sglV s.data.toList = q.data.toList)) (HB : Hid (sglB s.data.toList = b)) (HT : Hid (writeL s.data.toList true = s.data.toList)) :
    Calls Tryd.prog 3 #[.string s, .bool true] w fun e w' => e = .returned (.bool true) ∧ Below w.heap.size w w' := by
  have h1 : s.size ≤ 200000 := by omega
  have h2 : s.size ≤ 1000000 := by omega
  have h4 : s.size ≤ maxLen := by unfold maxLen; omega
  go_enter Tryd.func3, Tryd.ntmps3
  go_wp2_with fail
  refine (RDouble_any s _ h1 D HD.out).mono ?_
  rintro e w1 ⟨rfl, hb1⟩
  have b1 := Lib.hid hb1
  have HW1 := Lib.hid (HW.out.keep hb1)
  clear hb1
  go_wp2_with fail
  refine (RRow_q s true _ h2 HR.out).mono ?_
  rintro e w' ⟨rfl, rfl⟩
  go_wp2_with fail
  refine (Single_q s q b _ HW1.out h1 HQ.out HB.out).mono ?_
  rintro e w2 ⟨rfl, hb2⟩
  have b2 := Lib.hid (belowNext b1.out hb2)
  have HW2 := Lib.hid (HW1.out.keep hb2)
  clear hb2
  go_wp2_with fail
  refine (RSingle_any s _ h1 q b HQ.out HB.out).mono ?_
  rintro e w3 ⟨rfl, hb3⟩
  have b3 := Lib.hid (belowNext b2.out hb3)
  have HW3 := Lib.hid (HW2.out.keep hb3)
  clear hb3
  go_wp2_with fail
  refine (Plain_q s p _ h4 HP.out).mono ?_
  rintro e w' ⟨rfl, rfl⟩
  go_wp2_with fail
  refine (RPlain_q s p _ h2 HP.out).mono ?_
  rintro e w' ⟨rfl, rfl⟩
  go_wp2_with fail
  refine (Row_q s true _ h4 HR.out).mono ?_
  rintro e w' ⟨rfl, rfl⟩
  go_wp2_with fail
  refine (RRow_q s true _ h2 HR.out).mono ?_
  rintro e w' ⟨rfl, rfl⟩
  go_wp2_with fail
  refine (Double_any s _ h1 D HD.out).mono ?_
  rintro e w4 ⟨rfl, hb4⟩
  have b4 := Lib.hid (belowNext b3.out hb4)
  have HW4 := Lib.hid (HW3.out.keep hb4)
  clear hb4
  go_wp2_with fail
  refine (RDouble_any s _ h1 D HD.out).mono ?_
  rintro e w5 ⟨rfl, hb5⟩
  have b5 := Lib.hid (belowNext b4.out hb5)
  have HW5 := Lib.hid (HW4.out.keep hb5)
  clear hb5
  go_wp2_with fail
  refine (Write_any s true _ h1 s HT.out).mono ?_
  rintro e w6 ⟨rfl, hb6⟩
  have b6 := Lib.hid (belowNext b5.out hb6)
  have HW6 := Lib.hid (HW5.out.keep hb6)
  clear hb6
  go_wp2_with fail
  refine (awake_any _).mono ?_
  rintro e w7 ⟨rfl, hb7⟩
  have b7 := Lib.hid (belowNext b6.out hb7)
  have HW7 := Lib.hid (HW6.out.keep hb7)
  clear hb7
  go_wp2
  go_ret
  exact ⟨rfl, b7.out⟩
set_option maxHeartbeats 4000000 in
theorem asks_true_false (s : ByteArray) (w : World) (HW : Hid (SomeMax w)) (h3 : ¬ (3000 : Int) < (s.size : Int)) (p : Bool) (HP : Hid (plainB s.data.toList = p)) (HR : Hid (rowB s.data.toList = false)) (D q T : ByteArray) (b : Bool) (HD : Hid (dblL s.data.toList = D.data.toList)) (HQ : Hid (sglV s.data.toList = q.data.toList)) (HB : Hid (sglB s.data.toList = b)) (HT : Hid (writeL s.data.toList true = D.data.toList)) :
    Calls Tryd.prog 3 #[.string s, .bool true] w fun e w' => e = .returned (.bool true) ∧ Below w.heap.size w w' := by
  have h1 : s.size ≤ 200000 := by omega
  have h2 : s.size ≤ 1000000 := by omega
  have h4 : s.size ≤ maxLen := by unfold maxLen; omega
  go_enter Tryd.func3, Tryd.ntmps3
  go_wp2_with fail
  refine (RDouble_any s _ h1 D HD.out).mono ?_
  rintro e w1 ⟨rfl, hb1⟩
  have b1 := Lib.hid hb1
  have HW1 := Lib.hid (HW.out.keep hb1)
  clear hb1
  go_wp2_with fail
  refine (RRow_q s false _ h2 HR.out).mono ?_
  rintro e w' ⟨rfl, rfl⟩
  go_wp2_with fail
  refine (Single_q s q b _ HW1.out h1 HQ.out HB.out).mono ?_
  rintro e w2 ⟨rfl, hb2⟩
  have b2 := Lib.hid (belowNext b1.out hb2)
  have HW2 := Lib.hid (HW1.out.keep hb2)
  clear hb2
  go_wp2_with fail
  refine (RSingle_any s _ h1 q b HQ.out HB.out).mono ?_
  rintro e w3 ⟨rfl, hb3⟩
  have b3 := Lib.hid (belowNext b2.out hb3)
  have HW3 := Lib.hid (HW2.out.keep hb3)
  clear hb3
  go_wp2_with fail
  refine (Plain_q s p _ h4 HP.out).mono ?_
  rintro e w' ⟨rfl, rfl⟩
  go_wp2_with fail
  refine (RPlain_q s p _ h2 HP.out).mono ?_
  rintro e w' ⟨rfl, rfl⟩
  go_wp2_with fail
  refine (Row_q s false _ h4 HR.out).mono ?_
  rintro e w' ⟨rfl, rfl⟩
  go_wp2_with fail
  refine (RRow_q s false _ h2 HR.out).mono ?_
  rintro e w' ⟨rfl, rfl⟩
  go_wp2_with fail
  refine (Double_any s _ h1 D HD.out).mono ?_
  rintro e w4 ⟨rfl, hb4⟩
  have b4 := Lib.hid (belowNext b3.out hb4)
  have HW4 := Lib.hid (HW3.out.keep hb4)
  clear hb4
  go_wp2_with fail
  refine (RDouble_any s _ h1 D HD.out).mono ?_
  rintro e w5 ⟨rfl, hb5⟩
  have b5 := Lib.hid (belowNext b4.out hb5)
  have HW5 := Lib.hid (HW4.out.keep hb5)
  clear hb5
  go_wp2_with fail
  refine (Write_any s true _ h1 D HT.out).mono ?_
  rintro e w6 ⟨rfl, hb6⟩
  have b6 := Lib.hid (belowNext b5.out hb6)
  have HW6 := Lib.hid (HW5.out.keep hb6)
  clear hb6
  go_wp2_with fail
  refine (awake_any _).mono ?_
  rintro e w7 ⟨rfl, hb7⟩
  have b7 := Lib.hid (belowNext b6.out hb7)
  have HW7 := Lib.hid (HW6.out.keep hb7)
  clear hb7
  go_wp2
  go_ret
  exact ⟨rfl, b7.out⟩
set_option maxHeartbeats 4000000 in
theorem asks_false_true (s : ByteArray) (w : World) (HW : Hid (SomeMax w)) (h3 : ¬ (3000 : Int) < (s.size : Int)) (r : Bool) (HP : Hid (plainB s.data.toList = true)) (HR : Hid (rowB s.data.toList = r)) (D q T : ByteArray) (b : Bool) (HD : Hid (dblL s.data.toList = D.data.toList)) (HQ : Hid (sglV s.data.toList = q.data.toList)) (HB : Hid (sglB s.data.toList = b)) (HT : Hid (writeL s.data.toList false = s.data.toList)) :
    Calls Tryd.prog 3 #[.string s, .bool false] w fun e w' => e = .returned (.bool true) ∧ Below w.heap.size w w' := by
  have h1 : s.size ≤ 200000 := by omega
  have h2 : s.size ≤ 1000000 := by omega
  have h4 : s.size ≤ maxLen := by unfold maxLen; omega
  go_enter Tryd.func3, Tryd.ntmps3
  go_wp2_with fail
  refine (RDouble_any s _ h1 D HD.out).mono ?_
  rintro e w1 ⟨rfl, hb1⟩
  have b1 := Lib.hid hb1
  have HW1 := Lib.hid (HW.out.keep hb1)
  clear hb1
  go_wp2_with fail
  refine (RPlain_q s true _ h2 HP.out).mono ?_
  rintro e w' ⟨rfl, rfl⟩
  go_wp2_with fail
  refine (Single_q s q b _ HW1.out h1 HQ.out HB.out).mono ?_
  rintro e w2 ⟨rfl, hb2⟩
  have b2 := Lib.hid (belowNext b1.out hb2)
  have HW2 := Lib.hid (HW1.out.keep hb2)
  clear hb2
  go_wp2_with fail
  refine (RSingle_any s _ h1 q b HQ.out HB.out).mono ?_
  rintro e w3 ⟨rfl, hb3⟩
  have b3 := Lib.hid (belowNext b2.out hb3)
  have HW3 := Lib.hid (HW2.out.keep hb3)
  clear hb3
  go_wp2_with fail
  refine (Plain_q s true _ h4 HP.out).mono ?_
  rintro e w' ⟨rfl, rfl⟩
  go_wp2_with fail
  refine (RPlain_q s true _ h2 HP.out).mono ?_
  rintro e w' ⟨rfl, rfl⟩
  go_wp2_with fail
  refine (Row_q s r _ h4 HR.out).mono ?_
  rintro e w' ⟨rfl, rfl⟩
  go_wp2_with fail
  refine (RRow_q s r _ h2 HR.out).mono ?_
  rintro e w' ⟨rfl, rfl⟩
  go_wp2_with fail
  refine (Double_any s _ h1 D HD.out).mono ?_
  rintro e w4 ⟨rfl, hb4⟩
  have b4 := Lib.hid (belowNext b3.out hb4)
  have HW4 := Lib.hid (HW3.out.keep hb4)
  clear hb4
  go_wp2_with fail
  refine (RDouble_any s _ h1 D HD.out).mono ?_
  rintro e w5 ⟨rfl, hb5⟩
  have b5 := Lib.hid (belowNext b4.out hb5)
  have HW5 := Lib.hid (HW4.out.keep hb5)
  clear hb5
  go_wp2_with fail
  refine (Write_any s false _ h1 s HT.out).mono ?_
  rintro e w6 ⟨rfl, hb6⟩
  have b6 := Lib.hid (belowNext b5.out hb6)
  have HW6 := Lib.hid (HW5.out.keep hb6)
  clear hb6
  go_wp2_with fail
  refine (awake_any _).mono ?_
  rintro e w7 ⟨rfl, hb7⟩
  have b7 := Lib.hid (belowNext b6.out hb7)
  have HW7 := Lib.hid (HW6.out.keep hb7)
  clear hb7
  go_wp2
  go_ret
  exact ⟨rfl, b7.out⟩
set_option maxHeartbeats 4000000 in
theorem asks_false_false (s : ByteArray) (w : World) (HW : Hid (SomeMax w)) (h3 : ¬ (3000 : Int) < (s.size : Int)) (r : Bool) (HP : Hid (plainB s.data.toList = false)) (HR : Hid (rowB s.data.toList = r)) (D q T : ByteArray) (b : Bool) (HD : Hid (dblL s.data.toList = D.data.toList)) (HQ : Hid (sglV s.data.toList = q.data.toList)) (HB : Hid (sglB s.data.toList = b)) (HT : Hid (writeL s.data.toList false = D.data.toList)) :
    Calls Tryd.prog 3 #[.string s, .bool false] w fun e w' => e = .returned (.bool true) ∧ Below w.heap.size w w' := by
  have h1 : s.size ≤ 200000 := by omega
  have h2 : s.size ≤ 1000000 := by omega
  have h4 : s.size ≤ maxLen := by unfold maxLen; omega
  go_enter Tryd.func3, Tryd.ntmps3
  go_wp2_with fail
  refine (RDouble_any s _ h1 D HD.out).mono ?_
  rintro e w1 ⟨rfl, hb1⟩
  have b1 := Lib.hid hb1
  have HW1 := Lib.hid (HW.out.keep hb1)
  clear hb1
  go_wp2_with fail
  refine (RPlain_q s false _ h2 HP.out).mono ?_
  rintro e w' ⟨rfl, rfl⟩
  go_wp2_with fail
  refine (Single_q s q b _ HW1.out h1 HQ.out HB.out).mono ?_
  rintro e w2 ⟨rfl, hb2⟩
  have b2 := Lib.hid (belowNext b1.out hb2)
  have HW2 := Lib.hid (HW1.out.keep hb2)
  clear hb2
  go_wp2_with fail
  refine (RSingle_any s _ h1 q b HQ.out HB.out).mono ?_
  rintro e w3 ⟨rfl, hb3⟩
  have b3 := Lib.hid (belowNext b2.out hb3)
  have HW3 := Lib.hid (HW2.out.keep hb3)
  clear hb3
  go_wp2_with fail
  refine (Plain_q s false _ h4 HP.out).mono ?_
  rintro e w' ⟨rfl, rfl⟩
  go_wp2_with fail
  refine (RPlain_q s false _ h2 HP.out).mono ?_
  rintro e w' ⟨rfl, rfl⟩
  go_wp2_with fail
  refine (Row_q s r _ h4 HR.out).mono ?_
  rintro e w' ⟨rfl, rfl⟩
  go_wp2_with fail
  refine (RRow_q s r _ h2 HR.out).mono ?_
  rintro e w' ⟨rfl, rfl⟩
  go_wp2_with fail
  refine (Double_any s _ h1 D HD.out).mono ?_
  rintro e w4 ⟨rfl, hb4⟩
  have b4 := Lib.hid (belowNext b3.out hb4)
  have HW4 := Lib.hid (HW3.out.keep hb4)
  clear hb4
  go_wp2_with fail
  refine (RDouble_any s _ h1 D HD.out).mono ?_
  rintro e w5 ⟨rfl, hb5⟩
  have b5 := Lib.hid (belowNext b4.out hb5)
  have HW5 := Lib.hid (HW4.out.keep hb5)
  clear hb5
  go_wp2_with fail
  refine (Write_any s false _ h1 D HT.out).mono ?_
  rintro e w6 ⟨rfl, hb6⟩
  have b6 := Lib.hid (belowNext b5.out hb6)
  have HW6 := Lib.hid (HW5.out.keep hb6)
  clear hb6
  go_wp2_with fail
  refine (awake_any _).mono ?_
  rintro e w7 ⟨rfl, hb7⟩
  have b7 := Lib.hid (belowNext b6.out hb7)
  have HW7 := Lib.hid (HW6.out.keep hb7)
  clear hb7
  go_wp2
  go_ret
  exact ⟨rfl, b7.out⟩
theorem QuoteAsks_walk (s : ByteArray) (row : Bool) (hs : s.size ≤ maxLen) (w : World) (hW : SomeMax w) :
    Calls Tryd.prog 3 #[.string s, .bool row] w fun e w' => e = .returned (.bool true) ∧ Below w.heap.size w w' := by
  unfold maxLen at hs
  by_cases h3 : (3000 : Int) < (s.size : Int)
  · clear hW
    go_enter Tryd.func3, Tryd.ntmps3
    go_wp2_with (go_at_call 5; refine (awake_any _).mono ?_; rintro e w5 ⟨rfl, hb5⟩)
    go_ret
    exact ⟨rfl, hb5⟩
  obtain ⟨D, hD⟩ : ∃ D : ByteArray, dblL s.data.toList = D.data.toList := ⟨⟨(dblL s.data.toList).toArray⟩, by simp⟩
  obtain ⟨q, hq⟩ : ∃ q : ByteArray, sglV s.data.toList = q.data.toList := ⟨⟨(sglV s.data.toList).toArray⟩, by simp⟩
  cases row with
  | true =>
    rcases Bool.eq_false_or_eq_true (rowB s.data.toList) with h | h
    · exact asks_true_true s w (Lib.hid hW) h3 _ (Lib.hid rfl) (Lib.hid h) D q D _ (Lib.hid hD) (Lib.hid hq) (Lib.hid rfl) (Lib.hid (write_yes (row := true) h))
    · exact asks_true_false s w (Lib.hid hW) h3 _ (Lib.hid rfl) (Lib.hid h) D q D _ (Lib.hid hD) (Lib.hid hq) (Lib.hid rfl) (Lib.hid ((write_no (row := true) h).trans hD))
  | false =>
    rcases Bool.eq_false_or_eq_true (plainB s.data.toList) with h | h
    · exact asks_false_true s w (Lib.hid hW) h3 _ (Lib.hid h) (Lib.hid rfl) D q D _ (Lib.hid hD) (Lib.hid hq) (Lib.hid rfl) (Lib.hid (write_yes (row := false) h))
    · exact asks_false_false s w (Lib.hid hW) h3 _ (Lib.hid h) (Lib.hid rfl) D q D _ (Lib.hid hD) (Lib.hid hq) (Lib.hid rfl) (Lib.hid ((write_no (row := false) h).trans hD))
end Go.Proofs.YtidagmecghbaeaaDoor
