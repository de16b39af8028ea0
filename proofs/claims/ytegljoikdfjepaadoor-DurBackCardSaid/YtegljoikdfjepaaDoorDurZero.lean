/- The contract of dur.isZero. -/
import Derived.Test.YtegljoikdfjepaaDoorDurUnit
namespace Go.Proofs.YtegljoikdfjepaaDoor
open Go.RowKit
open Dg
set_option linter.unusedVariables false
theorem unit_q (s q : ByteArray) (u : Nat) (w : World) (hs : s.size ≤ maxLen) (hu : uS s.data.toList = u) (hq : uR s.data.toList = q.data.toList) :
    Calls Tryd.prog 27 #[.string s] w fun e w' => e = .returned (.tuple #[.int .i64 (u : Int), .string q]) ∧ Below w.heap.size w w' :=
  (unit_any s w hs).mono fun e w' ⟨h1, h2⟩ => ⟨by rw [h1, hu, mk_of hq], h2⟩
theorem cutp0_yes (s r : ByteArray) (w : World) (h : s.data.toList = 48 :: r.data.toList) :
    Calls Tryd.prog 26 #[.string s, .string ⟨#[48]⟩] w fun e w' => e = .returned (.tuple #[.string r, .bool true]) ∧ w = w' := by
  refine (Tryd.strings_CutPrefix s ⟨#[48]⟩ w).mono ?_
  rintro e w' ⟨rfl, rfl⟩
  have h1 : Lib.hasPrefix s.data.toList [48] = true := by rw [h]; rfl
  have h2 : Lib.trimPrefix s.data.toList [48] = r.data.toList := by unfold Lib.trimPrefix; rw [h1, h]; rfl
  exact ⟨by show Ending.returned (.tuple #[.string ⟨(Lib.trimPrefix s.data.toList [48]).toArray⟩, .bool (Lib.hasPrefix s.data.toList [48])]) = _; rw [h1, h2], rfl⟩
theorem cutp0_no (s : ByteArray) (w : World) (h : s.data.toList.head? ≠ some 48) :
    Calls Tryd.prog 26 #[.string s, .string ⟨#[48]⟩] w fun e w' => e = .returned (.tuple #[.string s, .bool false]) ∧ w = w' := by
  refine (Tryd.strings_CutPrefix s ⟨#[48]⟩ w).mono ?_
  rintro e w' ⟨rfl, rfl⟩
  have h1 : Lib.hasPrefix s.data.toList [48] = false := by
    unfold Lib.hasPrefix
    revert h
    cases s.data.toList with
    | nil => intro _; rfl
    | cons a r => intro h; simp at h; simpa [List.isPrefixOf] using fun e => h e.symm
  have h2 : Lib.trimPrefix s.data.toList [48] = s.data.toList := by unfold Lib.trimPrefix; rw [h1]; rfl
  exact ⟨by show Ending.returned (.tuple #[.string ⟨(Lib.trimPrefix s.data.toList [48]).toArray⟩, .bool (Lib.hasPrefix s.data.toList [48])]) = _; rw [h1, h2], rfl⟩

theorem zeroF_no {l : List UInt8} (h : l.head? ≠ some 48) : decide (zeroF l) = false := decide_eq_false fun z => h z.1
theorem zeroF_unit {l r : List UInt8} (h : l = 48 :: r) (hu : uS r = 0) : decide (zeroF l) = false := decide_eq_false fun z => by
  subst h; exact z.2.1 hu
theorem zeroF_rest {l r : List UInt8} (h : l = 48 :: r) (hq : uR r ≠ []) : decide (zeroF l) = false := decide_eq_false fun z => by
  subst h; exact hq z.2.2
theorem zeroF_yes {l r : List UInt8} (h : l = 48 :: r) (hu : uS r ≠ 0) (hq : uR r = []) : decide (zeroF l) = true := decide_eq_true (by
  subst h; exact ⟨rfl, hu, hq⟩)

set_option maxHeartbeats 1000000 in
theorem isZero_any (s : ByteArray) (w : World) (hs : s.size ≤ maxLen) :
    Calls Tryd.prog 17 #[.string s] w fun e w' => e = .returned (.bool (decide (zeroF s.data.toList))) ∧ Below w.heap.size w w' := by
  by_cases hh : s.data.toList.head? = some 48
  · obtain ⟨r, hr⟩ : ∃ r : ByteArray, s.data.toList = 48 :: r.data.toList := by
      obtain ⟨t, ht⟩ := List.head?_eq_some_iff.1 hh
      exact ⟨⟨t.toArray⟩, by simp [ht]⟩
    have hrs : r.size ≤ maxLen := by
      have : s.size = r.size + 1 := by rw [← len_eq s, hr, List.length_cons, len_eq]
      omega
    obtain ⟨q, hq⟩ : ∃ q : ByteArray, uR r.data.toList = q.data.toList := ⟨⟨(uR r.data.toList).toArray⟩, by simp⟩
    obtain ⟨u, hu⟩ : ∃ u : Nat, uS r.data.toList = u := ⟨_, rfl⟩
    have HR := Lib.hid hr
    have HU := Lib.hid hu
    have HQ := Lib.hid hq
    clear hh
    by_cases h0 : u = 0
    · have HZ := Lib.hid (zeroF_unit hr (hu.trans h0))
      subst h0
      clear hr hu hq
      go_enter Tryd.func17, Tryd.ntmps17
      go_wp2_with (first | (go_at_call 26; refine (cutp0_yes _ _ _ HR.out).mono ?_; rintro e w' ⟨rfl, rfl⟩) | (go_at_call 27; refine (unit_q _ q 0 _ hrs HU.out HQ.out).mono ?_; rintro e w1 ⟨rfl, hb⟩))
      go_ret
      exact ⟨ret_bool HZ.out.symm, hb⟩
    · have t1 : (0 : Int) < (u : Int) := by omega
      by_cases h1 : q.data.toList = []
      · have HZ := Lib.hid (zeroF_yes hr (by rw [hu]; exact h0) (hq.trans h1))
        obtain rfl : q = ⟨#[]⟩ := bytes_ext (by rw [h1])
        clear hr hu hq h0 h1
        go_enter Tryd.func17, Tryd.ntmps17
        go_wp2_with (first | (go_at_call 26; refine (cutp0_yes _ _ _ HR.out).mono ?_; rintro e w' ⟨rfl, rfl⟩) | (go_at_call 27; refine (unit_q _ ⟨#[]⟩ u _ hrs HU.out HQ.out).mono ?_; rintro e w1 ⟨rfl, hb⟩))
        go_ret
        exact ⟨ret_bool HZ.out.symm, hb⟩
      · have HZ := Lib.hid (zeroF_rest hr (by rw [hq]; exact h1))
        have b1 : q.toList.isEmpty = false := by rw [ByteArray.toList_eq, List.isEmpty_eq_false_iff]; exact h1
        have b2 : ¬ q.toList = [] := by rw [ByteArray.toList_eq]; exact h1
        clear hr hu hq h0 h1
        go_enter Tryd.func17, Tryd.ntmps17
        go_wp2_with (first | (go_at_call 26; refine (cutp0_yes _ _ _ HR.out).mono ?_; rintro e w' ⟨rfl, rfl⟩) | (go_at_call 27; refine (unit_q _ q u _ hrs HU.out HQ.out).mono ?_; rintro e w1 ⟨rfl, hb⟩))
        go_ret
        exact ⟨ret_bool HZ.out.symm, hb⟩
  · have HZ := Lib.hid (zeroF_no hh)
    have HH := Lib.hid hh
    clear hh
    obtain ⟨q, hq⟩ : ∃ q : ByteArray, uR s.data.toList = q.data.toList := ⟨⟨(uR s.data.toList).toArray⟩, by simp⟩
    obtain ⟨u, hu⟩ : ∃ u : Nat, uS s.data.toList = u := ⟨_, rfl⟩
    have HU := Lib.hid hu
    have HQ := Lib.hid hq
    clear hu hq
    go_enter Tryd.func17, Tryd.ntmps17
    go_wp2_with (first | (go_at_call 26; refine (cutp0_no _ _ HH.out).mono ?_; rintro e w' ⟨rfl, rfl⟩) | (go_at_call 27; refine (unit_q _ q u _ hs HU.out HQ.out).mono ?_; rintro e w1 ⟨rfl, hb⟩))
    go_ret
    exact ⟨ret_bool HZ.out.symm, hb⟩
end Go.Proofs.YtegljoikdfjepaaDoor
