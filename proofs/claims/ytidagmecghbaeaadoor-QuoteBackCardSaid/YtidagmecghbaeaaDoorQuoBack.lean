/- QuoteBack: the walks. -/
import Derived.Test.YtidagmecghbaeaaDoorQuoLaw3
namespace Go.Proofs.YtidagmecghbaeaaDoor
open Go.RowKit
open Q6
set_option linter.unusedVariables false
set_option maxHeartbeats 1600000 in
theorem back_long (a s b : ByteArray) (w : World) (ha : a.size ≤ maxLen) (hs : s.size ≤ maxLen) (hb : b.size ≤ maxLen) (h : 3000 < s.size ∨ 3000 < a.size ∨ 3000 < b.size) :
    Calls Tryd.prog 4 #[.string a, .string s, .string b] w fun e w' => e = .returned (.bool true) ∧ Below w.heap.size w w' := by
  unfold maxLen at ha hs hb
  by_cases h1 : (3000 : Int) < (s.size : Int)
  · clear h
    go_enter Tryd.func4, Tryd.ntmps4
    go_wp2_with (go_at_call 5; refine (awake_any _).mono ?_; rintro e w5 ⟨rfl, hb5⟩)
    go_ret
    exact ⟨rfl, hb5⟩
  by_cases h2 : (3000 : Int) < (a.size : Int)
  · clear h
    go_enter Tryd.func4, Tryd.ntmps4
    go_wp2_with (go_at_call 5; refine (awake_any _).mono ?_; rintro e w5 ⟨rfl, hb5⟩)
    go_ret
    exact ⟨rfl, hb5⟩
  have h3 : (3000 : Int) < (b.size : Int) := by omega
  clear h
  go_enter Tryd.func4, Tryd.ntmps4
  go_wp2_with (go_at_call 5; refine (awake_any _).mono ?_; rintro e w5 ⟨rfl, hb5⟩)
  go_ret
  exact ⟨rfl, hb5⟩
set_option maxHeartbeats 2000000 in
theorem back_not (a s b : ByteArray) (w : World) (hW : SomeMax w) (h1 : ¬ (3000 : Int) < (s.size : Int)) (h2 : ¬ (3000 : Int) < (a.size : Int)) (h3 : ¬ (3000 : Int) < (b.size : Int)) (D : ByteArray) (HD : Hid (dblL s.data.toList = D.data.toList)) (hD : D.size ≤ 20000) (HG : Hid (sglB s.data.toList = false)) :
    Calls Tryd.prog 4 #[.string a, .string s, .string b] w fun e w' => e = .returned (.bool true) ∧ Below w.heap.size w w' := by
  have HW := Lib.hid hW
  clear hW
  have ha' : a.size ≤ 3000 := by omega
  have hb' : b.size ≤ 3000 := by omega
  have hs' : s.size ≤ 3000 := by omega
  have HX : Hid (scanV (a.data.toList ++ D.data.toList ++ b.data.toList) (a.data.toList.length : Int) = s.data.toList ∧ scanN (a.data.toList ++ D.data.toList ++ b.data.toList) (a.data.toList.length : Int) = (a.data.toList.length : Int) + (D.data.toList.length : Int) ∧ scanE (a.data.toList ++ D.data.toList ++ b.data.toList) (a.data.toList.length : Int) = 0) := Lib.hid (by rw [← HD.out]; exact back_double _ _ _)
  go_enter Tryd.func4, Tryd.ntmps4
  go_wp2_with fail
  refine (Double_any s _ (by omega) D HD.out).mono ?_
  rintro e w1 ⟨rfl, hb1⟩
  have HW1 := Lib.hid (HW.out.keep hb1)
  go_wp2_with fail
  refine (scan_back a D b s _ ha' hD hb' HX.out).mono ?_
  rintro e w2 ⟨rfl, hb2⟩
  have HW2 := Lib.hid (HW1.out.keep hb2)
  have b2 := Lib.hid (belowNext hb1 hb2)
  clear hb1 hb2
  go_wp2_with fail
  refine (Single_q s ⟨#[]⟩ false _ HW2.out (by omega) (by unfold sglV; rw [HG.out]; rfl) HG.out).mono ?_
  rintro e w3 ⟨rfl, hb3⟩
  have b3 := Lib.hid (belowNext b2.out hb3)
  clear hb3
  go_wp2_with fail
  refine (awake_any _).mono ?_
  rintro e w5 ⟨rfl, hb5⟩
  have b5 := Lib.hid (belowNext b3.out hb5)
  clear hb5
  go_wp2
  go_ret
  exact ⟨rfl, b5.out⟩
set_option maxHeartbeats 2000000 in
theorem back_quote (a s b : ByteArray) (w : World) (hW : SomeMax w) (h1 : ¬ (3000 : Int) < (s.size : Int)) (h2 : ¬ (3000 : Int) < (a.size : Int)) (h3 : ¬ (3000 : Int) < (b.size : Int)) (D : ByteArray) (HD : Hid (dblL s.data.toList = D.data.toList)) (hD : D.size ≤ 20000) (HG : Hid (sglB s.data.toList = true)) (S : ByteArray) (HS : Hid (sglL s.data.toList = S.data.toList)) (hS : S.size ≤ 20000) (hb0 : 0 < b.size) (m39 : ((b[0].toNat : Int) == 39) = true) (n1 : b.toList.isEmpty = false) (n2 : ¬ b.toList = []) :
    Calls Tryd.prog 4 #[.string a, .string s, .string b] w fun e w' => e = .returned (.bool true) ∧ Below w.heap.size w w' := by
  have HW := Lib.hid hW
  clear hW
  have ha' : a.size ≤ 3000 := by omega
  have hb' : b.size ≤ 3000 := by omega
  have hs' : s.size ≤ 3000 := by omega
  have HX : Hid (scanV (a.data.toList ++ D.data.toList ++ b.data.toList) (a.data.toList.length : Int) = s.data.toList ∧ scanN (a.data.toList ++ D.data.toList ++ b.data.toList) (a.data.toList.length : Int) = (a.data.toList.length : Int) + (D.data.toList.length : Int) ∧ scanE (a.data.toList ++ D.data.toList ++ b.data.toList) (a.data.toList.length : Int) = 0) := Lib.hid (by rw [← HD.out]; exact back_double _ _ _)
  go_enter Tryd.func4, Tryd.ntmps4
  go_wp2_with fail
  refine (Double_any s _ (by omega) D HD.out).mono ?_
  rintro e w1 ⟨rfl, hb1⟩
  have HW1 := Lib.hid (HW.out.keep hb1)
  go_wp2_with fail
  refine (scan_back a D b s _ ha' hD hb' HX.out).mono ?_
  rintro e w2 ⟨rfl, hb2⟩
  have HW2 := Lib.hid (HW1.out.keep hb2)
  have b2 := Lib.hid (belowNext hb1 hb2)
  clear hb1 hb2
  go_wp2_with fail
  refine (Single_q s S true _ HW2.out (by omega) (by unfold sglV; rw [HG.out]; exact HS.out) HG.out).mono ?_
  rintro e w3 ⟨rfl, hb3⟩
  have b3 := Lib.hid (belowNext b2.out hb3)
  clear hb3
  go_wp2_with fail
  refine (awake_any _).mono ?_
  rintro e w5 ⟨rfl, hb5⟩
  have b5 := Lib.hid (belowNext b3.out hb5)
  clear hb5
  go_wp2
  go_ret
  exact ⟨rfl, b5.out⟩
set_option maxHeartbeats 2000000 in
theorem back_some (a s b : ByteArray) (w : World) (hW : SomeMax w) (h1 : ¬ (3000 : Int) < (s.size : Int)) (h2 : ¬ (3000 : Int) < (a.size : Int)) (h3 : ¬ (3000 : Int) < (b.size : Int)) (D : ByteArray) (HD : Hid (dblL s.data.toList = D.data.toList)) (hD : D.size ≤ 20000) (HG : Hid (sglB s.data.toList = true)) (S : ByteArray) (HS : Hid (sglL s.data.toList = S.data.toList)) (hS : S.size ≤ 20000) (hb0 : 0 < b.size) (m39 : ((b[0].toNat : Int) == 39) = false) (n1 : b.toList.isEmpty = false) (n2 : ¬ b.toList = []) (HB0 : Hid (b.data.toList = [] ∨ b.data.toList.headD 0 ≠ 39)) :
    Calls Tryd.prog 4 #[.string a, .string s, .string b] w fun e w' => e = .returned (.bool true) ∧ Below w.heap.size w w' := by
  have HW := Lib.hid hW
  clear hW
  have ha' : a.size ≤ 3000 := by omega
  have hb' : b.size ≤ 3000 := by omega
  have hs' : s.size ≤ 3000 := by omega
  have HX : Hid (scanV (a.data.toList ++ D.data.toList ++ b.data.toList) (a.data.toList.length : Int) = s.data.toList ∧ scanN (a.data.toList ++ D.data.toList ++ b.data.toList) (a.data.toList.length : Int) = (a.data.toList.length : Int) + (D.data.toList.length : Int) ∧ scanE (a.data.toList ++ D.data.toList ++ b.data.toList) (a.data.toList.length : Int) = 0) := Lib.hid (by rw [← HD.out]; exact back_double _ _ _)
  have HY : Hid (scanV (a.data.toList ++ S.data.toList ++ b.data.toList) (a.data.toList.length : Int) = s.data.toList ∧ scanN (a.data.toList ++ S.data.toList ++ b.data.toList) (a.data.toList.length : Int) = (a.data.toList.length : Int) + (S.data.toList.length : Int) ∧ scanE (a.data.toList ++ S.data.toList ++ b.data.toList) (a.data.toList.length : Int) = 0) := Lib.hid (by rw [← HS.out]; exact back_single _ _ _ (sglB_good HG.out) HB0.out)
  go_enter Tryd.func4, Tryd.ntmps4
  go_wp2_with fail
  refine (Double_any s _ (by omega) D HD.out).mono ?_
  rintro e w1 ⟨rfl, hb1⟩
  have HW1 := Lib.hid (HW.out.keep hb1)
  go_wp2_with fail
  refine (scan_back a D b s _ ha' hD hb' HX.out).mono ?_
  rintro e w2 ⟨rfl, hb2⟩
  have HW2 := Lib.hid (HW1.out.keep hb2)
  have b2 := Lib.hid (belowNext hb1 hb2)
  clear hb1 hb2
  go_wp2_with fail
  refine (Single_q s S true _ HW2.out (by omega) (by unfold sglV; rw [HG.out]; exact HS.out) HG.out).mono ?_
  rintro e w3 ⟨rfl, hb3⟩
  have b3 := Lib.hid (belowNext b2.out hb3)
  clear hb3
  go_wp2_with fail
  refine (scan_back a S b s _ ha' hS hb' HY.out).mono ?_
  rintro e w4 ⟨rfl, hb4⟩
  have b4 := Lib.hid (belowNext b3.out hb4)
  clear hb4
  go_wp2_with fail
  refine (awake_any _).mono ?_
  rintro e w5 ⟨rfl, hb5⟩
  have b5 := Lib.hid (belowNext b4.out hb5)
  clear hb5
  go_wp2
  go_ret
  exact ⟨rfl, b5.out⟩
set_option maxHeartbeats 2000000 in
theorem back_empty (a s : ByteArray) (w : World) (hW : SomeMax w) (h1 : ¬ (3000 : Int) < (s.size : Int)) (h2 : ¬ (3000 : Int) < (a.size : Int)) (D : ByteArray) (HD : Hid (dblL s.data.toList = D.data.toList)) (hD : D.size ≤ 20000) (HG : Hid (sglB s.data.toList = true)) (S : ByteArray) (HS : Hid (sglL s.data.toList = S.data.toList)) (hS : S.size ≤ 20000) :
    Calls Tryd.prog 4 #[.string a, .string s, .string ⟨#[]⟩] w fun e w' => e = .returned (.bool true) ∧ Below w.heap.size w w' := by
  have HW := Lib.hid hW
  clear hW
  have ha' : a.size ≤ 3000 := by omega
  have hs' : s.size ≤ 3000 := by omega
  have HX : Hid (scanV (a.data.toList ++ D.data.toList ++ (⟨#[]⟩ : ByteArray).data.toList) (a.data.toList.length : Int) = s.data.toList ∧ scanN (a.data.toList ++ D.data.toList ++ (⟨#[]⟩ : ByteArray).data.toList) (a.data.toList.length : Int) = (a.data.toList.length : Int) + (D.data.toList.length : Int) ∧ scanE (a.data.toList ++ D.data.toList ++ (⟨#[]⟩ : ByteArray).data.toList) (a.data.toList.length : Int) = 0) := Lib.hid (by rw [← HD.out]; exact back_double _ _ _)
  have HY : Hid (scanV (a.data.toList ++ S.data.toList ++ (⟨#[]⟩ : ByteArray).data.toList) (a.data.toList.length : Int) = s.data.toList ∧ scanN (a.data.toList ++ S.data.toList ++ (⟨#[]⟩ : ByteArray).data.toList) (a.data.toList.length : Int) = (a.data.toList.length : Int) + (S.data.toList.length : Int) ∧ scanE (a.data.toList ++ S.data.toList ++ (⟨#[]⟩ : ByteArray).data.toList) (a.data.toList.length : Int) = 0) := Lib.hid (by rw [← HS.out]; exact back_single _ _ _ (sglB_good HG.out) (.inl rfl))
  go_enter Tryd.func4, Tryd.ntmps4
  go_wp2_with fail
  refine (Double_any s _ (by omega) D HD.out).mono ?_
  rintro e w1 ⟨rfl, hb1⟩
  have HW1 := Lib.hid (HW.out.keep hb1)
  go_wp2_with fail
  refine (scan_back a D ⟨#[]⟩ s _ ha' hD (by decide) HX.out).mono ?_
  rintro e w2 ⟨rfl, hb2⟩
  have HW2 := Lib.hid (HW1.out.keep hb2)
  have b2 := Lib.hid (belowNext hb1 hb2)
  clear hb1 hb2
  go_wp2_with fail
  refine (Single_q s S true _ HW2.out (by omega) (by unfold sglV; rw [HG.out]; exact HS.out) HG.out).mono ?_
  rintro e w3 ⟨rfl, hb3⟩
  have b3 := Lib.hid (belowNext b2.out hb3)
  clear hb3
  go_wp2_with fail
  refine (scan_back a S ⟨#[]⟩ s _ ha' hS (by decide) HY.out).mono ?_
  rintro e w4 ⟨rfl, hb4⟩
  have b4 := Lib.hid (belowNext b3.out hb4)
  clear hb4
  go_wp2_with fail
  refine (awake_any _).mono ?_
  rintro e w5 ⟨rfl, hb5⟩
  have b5 := Lib.hid (belowNext b4.out hb5)
  clear hb5
  go_wp2
  go_ret
  exact ⟨rfl, b5.out⟩
theorem QuoteBack_walk (a s b : ByteArray) (ha : a.size ≤ maxLen) (hs : s.size ≤ maxLen) (hb : b.size ≤ maxLen) (w : World) (hW : SomeMax w) :
    Calls Tryd.prog 4 #[.string a, .string s, .string b] w fun e w' => e = .returned (.bool true) ∧ Below w.heap.size w w' := by
  by_cases hl : 3000 < s.size ∨ 3000 < a.size ∨ 3000 < b.size
  · exact back_long a s b w ha hs hb hl
  obtain ⟨D, hD⟩ : ∃ D : ByteArray, dblL s.data.toList = D.data.toList := ⟨⟨(dblL s.data.toList).toArray⟩, by simp⟩
  have hDs : D.size ≤ 20000 := by
    have h := dblL_len s.data.toList
    rw [← size_of hD, len_eq] at h
    omega
  rcases Bool.eq_false_or_eq_true (sglB s.data.toList) with hg | hg
  · obtain ⟨S, hS⟩ : ∃ S : ByteArray, sglL s.data.toList = S.data.toList := ⟨⟨(sglL s.data.toList).toArray⟩, by simp⟩
    have hSs : S.size ≤ 20000 := by
      have h := sglL_len s.data.toList
      rw [← size_of hS, len_eq] at h
      omega
    by_cases hb0 : b.data.toList = []
    · obtain rfl := bytes_of (l := #[]) hb0
      exact back_empty a s w hW (by omega) (by omega) D (Lib.hid hD) hDs (Lib.hid hg) S (Lib.hid hS) hSs
    · have hpos : 0 < b.size := by rw [← len_eq]; exact List.length_pos_iff.2 hb0
      have n1 : b.toList.isEmpty = false := by rw [ByteArray.toList_eq, List.isEmpty_eq_false_iff]; exact hb0
      have n2 : ¬ b.toList = [] := by rw [ByteArray.toList_eq]; exact hb0
      by_cases hq : b[0] = 39
      · exact back_quote a s b w hW (by omega) (by omega) (by omega) D (Lib.hid hD) hDs (Lib.hid hg) S (Lib.hid hS) hSs hpos (by rw [isC_beq 39 b[0] 39 rfl]; exact isC_iff.2 hq) n1 n2
      · refine back_some a s b w hW (by omega) (by omega) (by omega) D (Lib.hid hD) hDs (Lib.hid hg) S (Lib.hid hS) hSs hpos (by rw [isC_beq 39 b[0] 39 rfl]; exact Bool.eq_false_iff.2 (fun e => hq (isC_iff.1 e))) n1 n2 (Lib.hid (.inr ?_))
        have h0 := getd b 0 hpos
        intro e
        apply hq
        rw [← h0]
        rw [List.headD_eq_head?_getD, List.head?_eq_getElem?] at e
        rw [List.getD_eq_getElem?_getD]
        exact e
  · exact back_not a s b w hW (by omega) (by omega) (by omega) D (Lib.hid hD) hDs (Lib.hid hg)
end Go.Proofs.YtidagmecghbaeaaDoor
