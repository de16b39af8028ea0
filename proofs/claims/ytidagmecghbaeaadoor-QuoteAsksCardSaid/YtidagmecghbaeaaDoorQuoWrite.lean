/- The contract of Write. -/
import Derived.Test.YtidagmecghbaeaaDoorQuoDouble
namespace Go.Proofs.YtidagmecghbaeaaDoor
open Go.RowKit Go.Sort
open Q6
set_option linter.unusedVariables false
def writeL (l : List UInt8) (row : Bool) : List UInt8 := if (if row then rowB l else plainB l) = true then l else dblL l
theorem write_yes {l : List UInt8} {row : Bool} (h : (if row then rowB l else plainB l) = true) : writeL l row = l := by unfold writeL; rw [if_pos h]
theorem write_no {l : List UInt8} {row : Bool} (h : (if row then rowB l else plainB l) = false) : writeL l row = dblL l := by unfold writeL; rw [if_neg (by rw [h]; decide)]
set_option maxHeartbeats 1600000 in
theorem Write_any (s : ByteArray) (row : Bool) (w : World) (hs : s.size ≤ 200000) (D : ByteArray) (hD : writeL s.data.toList row = D.data.toList) :
    Calls Tryd.prog 14 #[.string s, .bool row] w fun e w' => e = .returned (.string D) ∧ Below w.heap.size w w' := by
  have hs' : s.size ≤ maxLen := by unfold maxLen; omega
  cases row with
  | true =>
    rcases Bool.eq_false_or_eq_true (rowB s.data.toList) with h | h
    · have e : s = D := bytes_ext ((write_yes (row := true) h).symm.trans hD)
      subst e
      have HP := Lib.hid h
      clear h hD
      go_enter Tryd.func14, Tryd.ntmps14
      go_wp2_with (go_at_call 12; refine (Row_q s true _ hs' HP.out).mono ?_; rintro e w' ⟨rfl, rfl⟩)
      go_ret
      exact ⟨rfl, Below.refl _ _⟩
    · have HD := Lib.hid ((write_no (row := true) h).symm.trans hD)
      have HP := Lib.hid h
      clear h hD
      go_enter Tryd.func14, Tryd.ntmps14
      go_wp2_with (first | (go_at_call 12; refine (Row_q s false _ hs' HP.out).mono ?_; rintro e w' ⟨rfl, rfl⟩) | (go_at_call 13; refine (Double_any s _ hs D HD.out).mono ?_; rintro e w' ⟨rfl, hb⟩))
      go_ret
      exact ⟨rfl, hb⟩
  | false =>
    rcases Bool.eq_false_or_eq_true (plainB s.data.toList) with h | h
    · have e : s = D := bytes_ext ((write_yes (row := false) h).symm.trans hD)
      subst e
      have HP := Lib.hid h
      clear h hD
      go_enter Tryd.func14, Tryd.ntmps14
      go_wp2_with (go_at_call 11; refine (Plain_q s true _ hs' HP.out).mono ?_; rintro e w' ⟨rfl, rfl⟩)
      go_ret
      exact ⟨rfl, Below.refl _ _⟩
    · have HD := Lib.hid ((write_no (row := false) h).symm.trans hD)
      have HP := Lib.hid h
      clear h hD
      go_enter Tryd.func14, Tryd.ntmps14
      go_wp2_with (first | (go_at_call 11; refine (Plain_q s false _ hs' HP.out).mono ?_; rintro e w' ⟨rfl, rfl⟩) | (go_at_call 13; refine (Double_any s _ hs D HD.out).mono ?_; rintro e w' ⟨rfl, hb⟩))
      go_ret
      exact ⟨rfl, hb⟩
end Go.Proofs.YtidagmecghbaeaaDoor
