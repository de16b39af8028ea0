/- The contract of digit.Milli. -/
import Derived.Test.YtioplkdmkdhnfaaDigWalk2
namespace Go.Proofs.Ytioplkdmkdhnfaa
open Go.RowKit
open Dg
set_option linter.unusedVariables false
theorem data_app (a b : ByteArray) : (a ++ b).data.toList = a.data.toList ++ b.data.toList := by
  rw [ByteArray.data_append]; simp
theorem repeatL_one (c : UInt8) (n : Nat) : Lib.repeatL [c] n = List.replicate n c := by
  induction n with
  | zero => rfl
  | succ n ih => simp [Lib.repeatL, ih, List.replicate_succ]
theorem repeat_any (z : Int) (w : World) (h0 : 0 ≤ z) (h : z ≤ 3) :
    Calls Try.prog 24 #[.string ⟨#[48]⟩, .int .i64 z] w fun e w' => e = .returned (.string ⟨(List.replicate z.toNat 48).toArray⟩) ∧ Below w.heap.size w w' := by
  obtain ⟨n, rfl⟩ := Int.eq_ofNat_of_zero_le h0
  refine (Try.strings_Repeat ⟨#[48]⟩ n w (by omega) (by show 1 * n ≤ _; omega)).mono ?_
  rintro e w' ⟨rfl, hb⟩
  exact ⟨by show Ending.returned (.string ⟨(Lib.repeatL [48] n).toArray⟩) = _; rw [repeatL_one]; rfl, hb⟩

theorem value_l (t : ByteArray) (l : List UInt8) (w : World) (ht : t.data.toList = l) (hl : l.length ≤ 2097152) (hd : digs l = true) :
    Calls Try.prog 21 #[.string t, .int .i64 9007199254740992] w fun e w' => e = .returned (.tuple #[.int .i64 (valN l 9007199254740992), .int .i64 (valE l 9007199254740992)]) ∧ w = w' := by
  subst ht
  exact value_any t 9007199254740992 w (by unfold maxLen; rw [len_eq] at hl; omega) (by omega) (by omega) hd

set_option maxHeartbeats 800000 in
theorem Milli_any (s : ByteArray) (w : World) (hs : s.size ≤ 1048576) :
    Calls Try.prog 13 #[.string s] w fun e w' => e = .returned (.tuple #[.int .i64 (milliN s.data.toList), .int .i64 (milliE s.data.toList)]) ∧ Below w.heap.size w w' := by
  have hm : s.size ≤ maxLen := by unfold maxLen; omega
  by_cases hp : 46 ∈ s.data.toList
  · obtain ⟨a', b', ha, hl⟩ := pt_split hp
    obtain ⟨a, rfl⟩ : ∃ a : ByteArray, a' = a.data.toList := ⟨⟨a'.toArray⟩, by simp⟩
    obtain ⟨b, rfl⟩ : ∃ b : ByteArray, b' = b.data.toList := ⟨⟨b'.toArray⟩, by simp⟩
    have hz : s.size = a.size + (b.size + 1) := by rw [← len_eq s, hl, List.length_append, List.length_cons, len_eq, len_eq]
    have hma : a.size ≤ maxLen := by omega
    have hmb : b.size ≤ maxLen := by omega
    have hb20 : b.size ≤ 1048576 := by omega
    have hab : a.size + b.size ≤ 1048576 := by omega
    obtain ⟨e1, e2⟩ := mOk_yes (b := b.data.toList) ha
    rw [← hl] at e1 e2
    have HL := Lib.hid hl
    clear hz hl hp
    by_cases hw : whole a.data.toList = true
    · by_cases hf : frac b.data.toList = true
      · obtain ⟨hd, h3⟩ := digs_of_frac hf
        have H : Hid (milliN s.data.toList = valN (mD s.data.toList) 9007199254740992 ∧ milliE s.data.toList = valE (mD s.data.toList) 9007199254740992) :=
          Lib.hid ⟨by unfold milliN; rw [e1, hw, hf]; rfl, by unfold milliE; rw [e1, hw, hf]; rfl⟩
        have HD : Hid (digs (mD s.data.toList) = true) := Lib.hid (by rw [e2]; exact digs_append (digs_append (digs_of_whole hw) hd) (digs_zeros (3 - b.data.toList.length)))
        have E2 := Lib.hid e2
        have EL : Hid ((mD s.data.toList).length ≤ 2097152) := Lib.hid (by rw [e2]; simp; omega)
        have hb3 : b.size ≤ 3 := by rw [len_eq] at h3; exact h3
        clear e1 e2 hd h3
        go_enter Try.func13, Try.ntmps13
        go_wp2_with (first | (go_at_call 22; refine (cut_yes _ _ _ _ _ hm HL.out ha).mono ?_; rintro e w' ⟨rfl, hb1⟩) | (go_at_call 20; refine (isWhole_any _ _ hma).mono ?_; rintro e w' ⟨rfl, rfl⟩) | (go_at_call 23; refine (isFraction_any _ _ hmb).mono ?_; rintro e w' ⟨rfl, rfl⟩) | (go_at_call 24; refine (repeat_any _ _ (by omega) (by omega)).mono ?_; rintro e w' ⟨rfl, hb⟩) | (go_at_call 21; refine (value_l _ (mD s.data.toList) _ (by rw [E2.out]; simp) EL.out HD.out).mono ?_; rintro e w' ⟨rfl, rfl⟩))
        go_ret2
        exact ⟨ret_ii H.out.1.symm H.out.2.symm, hb1.trans (hb.mono hb1.size)⟩
      · have hf' : frac b.data.toList = false := by simpa using hf
        have H : Hid (milliN s.data.toList = 0 ∧ milliE s.data.toList = 3) := Lib.hid ⟨by unfold milliN; rw [e1, hw, hf']; rfl, by unfold milliE; rw [e1, hw, hf']; rfl⟩
        clear hf e1 e2
        go_enter Try.func13, Try.ntmps13
        go_wp2_with (first | (go_at_call 22; refine (cut_yes _ _ _ _ _ hm HL.out ha).mono ?_; rintro e w' ⟨rfl, hb1⟩) | (go_at_call 20; refine (isWhole_any _ _ hma).mono ?_; rintro e w' ⟨rfl, rfl⟩) | (go_at_call 23; refine (isFraction_any _ _ hmb).mono ?_; rintro e w' ⟨rfl, rfl⟩))
        go_ret2
        exact ⟨ret_ii H.out.1.symm H.out.2.symm, hb1⟩
    · have hw' : whole a.data.toList = false := by simpa using hw
      have H : Hid (milliN s.data.toList = 0 ∧ milliE s.data.toList = 3) := Lib.hid ⟨by unfold milliN; rw [e1, hw']; rfl, by unfold milliE; rw [e1, hw']; rfl⟩
      clear hw e1 e2
      go_enter Try.func13, Try.ntmps13
      go_wp2_with (first | (go_at_call 22; refine (cut_yes _ _ _ _ _ hm HL.out ha).mono ?_; rintro e w' ⟨rfl, hb1⟩) | (go_at_call 20; refine (isWhole_any _ _ hma).mono ?_; rintro e w' ⟨rfl, rfl⟩))
      go_ret2
      exact ⟨ret_ii H.out.1.symm H.out.2.symm, hb1⟩
  · obtain ⟨e1, e2⟩ := mOk_no hp
    by_cases hw : whole s.data.toList = true
    · have H : Hid (milliN s.data.toList = valN (mD s.data.toList) 9007199254740992 ∧ milliE s.data.toList = valE (mD s.data.toList) 9007199254740992) :=
        Lib.hid ⟨by unfold milliN; rw [e1, hw]; rfl, by unfold milliE; rw [e1, hw]; rfl⟩
      have HD : Hid (digs (mD s.data.toList) = true) := Lib.hid (by rw [e2]; exact digs_append (digs_of_whole hw) (digs_zeros 3))
      have E2 := Lib.hid e2
      have EL : Hid ((mD s.data.toList).length ≤ 2097152) := Lib.hid (by rw [e2]; simp; omega)
      clear e1 e2
      go_enter Try.func13, Try.ntmps13
      go_wp2_with (first | (go_at_call 22; refine (cut_no _ _ _ hm hp).mono ?_; rintro e w' ⟨rfl, rfl⟩) | (go_at_call 20; refine (isWhole_any _ _ hm).mono ?_; rintro e w' ⟨rfl, rfl⟩) | (go_at_call 24; refine (repeat_any _ _ (by omega) (by omega)).mono ?_; rintro e w' ⟨rfl, hb⟩) | (go_at_call 21; refine (value_l _ (mD s.data.toList) _ (by rw [E2.out]; simp) EL.out HD.out).mono ?_; rintro e w' ⟨rfl, rfl⟩))
      go_ret2
      exact ⟨ret_ii H.out.1.symm H.out.2.symm, hb⟩
    · have hw' : whole s.data.toList = false := by simpa using hw
      have H : Hid (milliN s.data.toList = 0 ∧ milliE s.data.toList = 3) := Lib.hid ⟨by unfold milliN; rw [e1, hw']; rfl, by unfold milliE; rw [e1, hw']; rfl⟩
      clear hw e1 e2
      go_enter Try.func13, Try.ntmps13
      go_wp2_with (first | (go_at_call 22; refine (cut_no _ _ _ hm hp).mono ?_; rintro e w' ⟨rfl, rfl⟩) | (go_at_call 20; refine (isWhole_any _ _ hm).mono ?_; rintro e w' ⟨rfl, rfl⟩))
      go_ret2
      exact ⟨ret_ii H.out.1.symm H.out.2.symm, Below.refl _ _⟩
end Go.Proofs.Ytioplkdmkdhnfaa
