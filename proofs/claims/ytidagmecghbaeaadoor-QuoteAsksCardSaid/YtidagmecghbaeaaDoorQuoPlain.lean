/- The contracts of Plain and Row. -/
import Derived.Test.YtidagmecghbaeaaDoorQuoEvery
import Derived.Test.YtidagmecghbaeaaDoorQuoPlain1
namespace Go.Proofs.YtidagmecghbaeaaDoor
open Go.RowKit
open Q6
set_option linter.unusedVariables false
theorem tells_plain : Tells3 23 plainF := ⟨enters_of Tryd.func23 (by kernel_rfl) rfl, plain1_any⟩
theorem tells_row : Tells3 25 rowF := ⟨enters_of Tryd.func25 (by kernel_rfl) rfl, row1_any⟩
theorem tells_good : Tells3 20 goodF := ⟨enters_of Tryd.func20 (by kernel_rfl) rfl, single1_any⟩
theorem bytes_of {s : ByteArray} {l : Array UInt8} (h : s.data.toList = l.toList) : s = ⟨l⟩ := by
  cases s; rename_i x; cases x; cases l; simp at h; simp [h]
theorem every_q (s : ByteArray) (g : Nat) (F : UInt8 → UInt8 → UInt8 → Bool) (b : Bool) (w : World) (hs : s.size ≤ maxLen) (T : Tells3 g F) (h : everyB F s.data.toList = b) :
    Calls Tryd.prog 19 #[.string s, .func (.func g) #[] #[]] w fun e w' => e = .returned (.bool b) ∧ w = w' := by
  subst h; exact every_any s g F w hs T
set_option maxHeartbeats 800000 in
theorem Plain_any (s : ByteArray) (w : World) (hs : s.size ≤ maxLen) :
    Calls Tryd.prog 11 #[.string s] w fun e w' => e = .returned (.bool (plainB s.data.toList)) ∧ w = w' := by
  by_cases h0 : s.data.toList = []
  · obtain rfl := bytes_of (l := #[]) h0
    have H : Hid (plainB (⟨#[]⟩ : ByteArray).data.toList = false) := Lib.hid rfl
    clear h0
    go_enter Tryd.func11, Tryd.ntmps11
    go_wp2
    go_ret
    exact ⟨ret_b H.out.symm, rfl⟩
  by_cases h1 : s.data.toList = [126]
  · obtain rfl := bytes_of (l := #[126]) h1
    have H : Hid (plainB (⟨#[126]⟩ : ByteArray).data.toList = false) := Lib.hid rfl
    clear h0 h1
    go_enter Tryd.func11, Tryd.ntmps11
    go_wp2
    go_ret
    exact ⟨ret_b H.out.symm, rfl⟩
  by_cases h2 : s.data.toList = [110, 117, 108, 108]
  · obtain rfl := bytes_of (l := #[110, 117, 108, 108]) h2
    have H : Hid (plainB (⟨#[110, 117, 108, 108]⟩ : ByteArray).data.toList = false) := Lib.hid rfl
    clear h0 h1 h2
    go_enter Tryd.func11, Tryd.ntmps11
    go_wp2
    go_ret
    exact ⟨ret_b H.out.symm, rfl⟩
  obtain ⟨b, hb⟩ : ∃ b, everyB plainF s.data.toList = b := ⟨_, rfl⟩
  have H : Hid (plainB s.data.toList = b) := Lib.hid (by
    unfold plainB bad3
    rw [decide_eq_false h0, decide_eq_false h1, decide_eq_false h2]; exact hb)
  have b0 : s.toList.isEmpty = false := by rw [ByteArray.toList_eq, List.isEmpty_eq_false_iff]; exact h0
  have b0' : ¬ s.toList = [] := by rw [ByteArray.toList_eq]; exact h0
  have b1 : (s.toList == [126]) = false := by rw [ByteArray.toList_eq]; exact beq_eq_false_iff_ne.2 h1
  have b2 : (s.toList == [110, 117, 108, 108]) = false := by rw [ByteArray.toList_eq]; exact beq_eq_false_iff_ne.2 h2
  have HB := Lib.hid hb
  clear h0 h1 h2 hb
  go_enter Tryd.func11, Tryd.ntmps11
  go_wp2_with (go_at_call 19; refine (every_q _ _ plainF b _ hs tells_plain HB.out).mono ?_; rintro e w' ⟨rfl, rfl⟩)
  go_ret
  exact ⟨ret_b H.out.symm, rfl⟩
theorem Plain_q (s : ByteArray) (b : Bool) (w : World) (hs : s.size ≤ maxLen) (h : plainB s.data.toList = b) :
    Calls Tryd.prog 11 #[.string s] w fun e w' => e = .returned (.bool b) ∧ w = w' := by
  subst h; exact Plain_any s w hs
set_option maxHeartbeats 800000 in
theorem Row_any (s : ByteArray) (w : World) (hs : s.size ≤ maxLen) :
    Calls Tryd.prog 12 #[.string s] w fun e w' => e = .returned (.bool (rowB s.data.toList)) ∧ w = w' := by
  rcases Bool.eq_false_or_eq_true (plainB s.data.toList) with hp | hp
  · obtain ⟨b, hb⟩ : ∃ b, everyB rowF s.data.toList = b := ⟨_, rfl⟩
    have H : Hid (rowB s.data.toList = b) := Lib.hid (by unfold rowB; rw [hp, hb]; rfl)
    have HP := Lib.hid hp
    have HB := Lib.hid hb
    clear hp hb
    go_enter Tryd.func12, Tryd.ntmps12
    go_wp2_with (first | (go_at_call 11; refine (Plain_q _ true _ hs HP.out).mono ?_; rintro e w' ⟨rfl, rfl⟩) | (go_at_call 19; refine (every_q _ _ rowF b _ hs tells_row HB.out).mono ?_; rintro e w' ⟨rfl, rfl⟩))
    go_ret
    exact ⟨ret_b H.out.symm, rfl⟩
  · have H : Hid (rowB s.data.toList = false) := Lib.hid (by unfold rowB; rw [hp]; rfl)
    have HP := Lib.hid hp
    clear hp
    go_enter Tryd.func12, Tryd.ntmps12
    go_wp2_with (first | (go_at_call 11; refine (Plain_q _ false _ hs HP.out).mono ?_; rintro e w' ⟨rfl, rfl⟩))
    go_ret
    exact ⟨ret_b H.out.symm, rfl⟩
theorem Row_q (s : ByteArray) (b : Bool) (w : World) (hs : s.size ≤ maxLen) (h : rowB s.data.toList = b) :
    Calls Tryd.prog 12 #[.string s] w fun e w' => e = .returned (.bool b) ∧ w = w' := by
  subst h; exact Row_any s w hs
end Go.Proofs.YtidagmecghbaeaaDoor
