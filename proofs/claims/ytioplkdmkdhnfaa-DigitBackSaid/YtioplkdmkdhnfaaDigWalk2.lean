/- Contracts of digit.Parse and digit.Milli; of strings.CutPrefix and strings.Cut at a separator of one byte, in plain words. -/
import Derived.Test.YtioplkdmkdhnfaaDigWalk1
import Derived.Test.YtioplkdmkdhnfaaShelf
import Derived.RegionTactic
import Derived.ChangeAlike
namespace Go.Proofs.Ytioplkdmkdhnfaa
open Go.RowKit
open Dg
set_option linter.unusedVariables false
theorem bytes_ext {a b : ByteArray} (h : a.data.toList = b.data.toList) : a = b := by
  cases a; cases b; simp at h; simp [h]
theorem mk_of {l : List UInt8} {a : ByteArray} (h : l = a.data.toList) : (⟨l.toArray⟩ : ByteArray) = a := bytes_ext (by simp [h])
theorem indexByte_no {l : List UInt8} {c : UInt8} (h : c ∉ l) : Lib.indexByte l c = -1 := by
  induction l with
  | nil => rfl
  | cons d r ih =>
    have hd : (d == c) = false := by rw [beq_eq_false_iff_ne]; rintro rfl; exact h (List.mem_cons_self ..)
    have := ih fun hm => h (List.mem_cons_of_mem _ hm)
    simp [Lib.indexByte, hd, this]
theorem indexByte_yes {a b : List UInt8} {c : UInt8} (h : c ∉ a) : Lib.indexByte (a ++ c :: b) c = a.length := by
  induction a with
  | nil => simp [Lib.indexByte]
  | cons d r ih =>
    have hd : (d == c) = false := by rw [beq_eq_false_iff_ne]; rintro rfl; exact h (List.mem_cons_self ..)
    have h2 := ih fun hm => h (List.mem_cons_of_mem _ hm)
    have h3 : ((r.length : Int) == -1) = false := by rw [beq_eq_false_iff_ne]; omega
    simp [Lib.indexByte, hd, h2, h3]
theorem Index_same (s : ByteArray) (c : UInt8) (w : World) :
    Calls Try.prog 37 #[.string s, .string ⟨#[c]⟩] w fun e w' => e = .returned (.int .i64 (Lib.indexByte s.data.toList c)) ∧ w = w' :=
  (Try.stringslite_Index_one s c w).mono fun e w' ⟨h1, h2⟩ => ⟨h1, h2.symm⟩
theorem slcut_no (s : ByteArray) (c : UInt8) (w : World) (hs : s.size ≤ maxLen) (h : c ∉ s.data.toList) :
    Calls Try.prog 29 #[.string s, .string ⟨#[c]⟩] w fun e w' => e = .returned (.tuple #[.string s, .string ⟨#[]⟩, .bool false]) ∧ w = w' := by
  unfold maxLen at hs
  have hi := indexByte_no h
  go_enter Try.func29, Try.ntmps29
  go_wp2_with (go_at_call 37; refine (Index_same _ _ _).mono ?_; rintro e w' ⟨rfl, rfl⟩)
  go_ret3
  exact ⟨rfl, rfl⟩
theorem cut_no (s : ByteArray) (c : UInt8) (w : World) (hs : s.size ≤ maxLen) (h : c ∉ s.data.toList) :
    Calls Try.prog 22 #[.string s, .string ⟨#[c]⟩] w fun e w' => e = .returned (.tuple #[.string s, .string ⟨#[]⟩, .bool false]) ∧ w = w' := by
  go_enter Try.func22, Try.ntmps22
  go_wp2_with (go_at_call 29; refine (slcut_no _ _ _ hs h).mono ?_; rintro e w' ⟨rfl, rfl⟩)
  go_ret3
  exact ⟨rfl, rfl⟩
theorem slcut_yes (s a b : ByteArray) (c : UInt8) (w : World) (hs : s.size ≤ maxLen) (hl : s.data.toList = a.data.toList ++ c :: b.data.toList) (hc : c ∉ a.data.toList) :
    Calls Try.prog 29 #[.string s, .string ⟨#[c]⟩] w fun e w' => e = .returned (.tuple #[.string a, .string b, .bool true]) ∧ Below w.heap.size w w' := by
  unfold maxLen at hs
  have hi : Lib.indexByte s.data.toList c = a.size := by rw [hl]; exact indexByte_yes hc
  have hz : s.size = a.size + (b.size + 1) := by rw [← len_eq s, hl, List.length_append, List.length_cons, len_eq, len_eq]
  have hk : a.size < s.size := by omega
  have HA : Hid (s.extract 0 a.size = a) := Lib.hid (bytes_ext (by rw [Lib.extract_data, hl]; exact List.take_left))
  have HB : Hid (s.extract (a.size + 1) s.size = b) := Lib.hid (bytes_ext (by
    have e1 : (a.data.toList ++ c :: b.data.toList).drop (a.size + 1) = b.data.toList := by
      rw [← List.drop_drop, ← len_eq a, List.drop_left]; rfl
    rw [Lib.extract_data, hl, e1]
    exact List.take_of_length_le (by rw [len_eq]; omega)))
  clear hl hz hc
  go_enter Try.func29, Try.ntmps29
  go_wp2_with (go_at_call 37; refine (Index_same _ _ _).mono ?_; rintro e w' ⟨rfl, rfl⟩)
  go_region
  go_wp2
  rw [HA.out, HB.out]
  go_ret3
  exact ⟨rfl, (Below.refl _ _).drew⟩
theorem cut_yes (s a b : ByteArray) (c : UInt8) (w : World) (hs : s.size ≤ maxLen) (hl : s.data.toList = a.data.toList ++ c :: b.data.toList) (hc : c ∉ a.data.toList) :
    Calls Try.prog 22 #[.string s, .string ⟨#[c]⟩] w fun e w' => e = .returned (.tuple #[.string a, .string b, .bool true]) ∧ Below w.heap.size w w' := by
  have HL := Lib.hid hl; clear hl
  go_enter Try.func22, Try.ntmps22
  go_wp2_with (go_at_call 29; refine (slcut_yes _ _ _ _ _ hs HL.out hc).mono ?_; rintro e w' ⟨rfl, hb⟩)
  go_ret3
  exact ⟨rfl, hb⟩
theorem cutp_yes (s r : ByteArray) (w : World) (h : s.data.toList = 45 :: r.data.toList) :
    Calls Try.prog 19 #[.string s, .string ⟨#[45]⟩] w fun e w' => e = .returned (.tuple #[.string r, .bool true]) ∧ w = w' := by
  refine (Try.strings_CutPrefix s ⟨#[45]⟩ w).mono ?_
  rintro e w' ⟨rfl, rfl⟩
  have h1 : Lib.hasPrefix s.data.toList [45] = true := by rw [h]; rfl
  have h2 : Lib.trimPrefix s.data.toList [45] = r.data.toList := by unfold Lib.trimPrefix; rw [h1, h]; rfl
  exact ⟨by show Ending.returned (.tuple #[.string ⟨(Lib.trimPrefix s.data.toList [45]).toArray⟩, .bool (Lib.hasPrefix s.data.toList [45])]) = _; rw [h1, h2], rfl⟩
theorem cutp_no (s : ByteArray) (w : World) (h : s.data.toList.head? ≠ some 45) :
    Calls Try.prog 19 #[.string s, .string ⟨#[45]⟩] w fun e w' => e = .returned (.tuple #[.string s, .bool false]) ∧ w = w' := by
  refine (Try.strings_CutPrefix s ⟨#[45]⟩ w).mono ?_
  rintro e w' ⟨rfl, rfl⟩
  have h1 : Lib.hasPrefix s.data.toList [45] = false := by
    unfold Lib.hasPrefix
    revert h
    cases s.data.toList with
    | nil => intro _; rfl
    | cons a r => intro h; simp at h; simpa [List.isPrefixOf] using fun e => h e.symm
  have h2 : Lib.trimPrefix s.data.toList [45] = s.data.toList := by unfold Lib.trimPrefix; rw [h1]; rfl
  exact ⟨by show Ending.returned (.tuple #[.string ⟨(Lib.trimPrefix s.data.toList [45]).toArray⟩, .bool (Lib.hasPrefix s.data.toList [45])]) = _; rw [h1, h2], rfl⟩

/-- What digit.Parse answers. -/
def parseN (l : List UInt8) : Int := if l.head? = some 45 then (if l.tail = [48] then 0 else - countN l.tail 9007199254740992) else countN l 9007199254740992
def parseE (l : List UInt8) : Int := if l.head? = some 45 then (if l.tail = [48] then 3 else countE l.tail 9007199254740992) else countE l 9007199254740992
theorem valN_bd (l : List UInt8) (most : Int) (h : 0 ≤ most) : 0 ≤ valN l most ∧ valN l most ≤ most := by
  unfold valN; split <;> omega
theorem countN_bd (l : List UInt8) (most : Int) (h : 0 ≤ most) : 0 ≤ countN l most ∧ countN l most ≤ most := by
  unfold countN
  rw [if_neg (by omega)]
  split
  · exact valN_bd l most h
  · omega

set_option maxHeartbeats 800000 in
theorem Parse_any (s : ByteArray) (w : World) (hs : s.size ≤ maxLen) :
    Calls Try.prog 11 #[.string s] w fun e w' => e = .returned (.tuple #[.int .i64 (parseN s.data.toList), .int .i64 (parseE s.data.toList)]) ∧ w = w' := by
  by_cases hh : s.data.toList.head? = some 45
  · obtain ⟨r, hr⟩ : ∃ r : ByteArray, s.data.toList = 45 :: r.data.toList := by
      obtain ⟨t, ht⟩ := List.head?_eq_some_iff.1 hh
      exact ⟨⟨t.toArray⟩, by simp [ht]⟩
    have htl : s.data.toList.tail = r.data.toList := by rw [hr]; rfl
    have hrs : r.size ≤ maxLen := by
      have : s.size = r.size + 1 := by rw [← len_eq s, hr, List.length_cons, len_eq]
      omega
    by_cases hz : r.data.toList = [48]
    · have H : Hid (parseN s.data.toList = 0 ∧ parseE s.data.toList = 3) := Lib.hid ⟨by unfold parseN; rw [if_pos hh, htl, if_pos hz], by unfold parseE; rw [if_pos hh, htl, if_pos hz]⟩
      have b1 : (r.toList == [48]) = true := by rw [ByteArray.toList_eq, hz]; rfl
      have HR := Lib.hid hr
      clear hh hr htl hz
      go_enter Try.func11, Try.ntmps11
      go_wp2_with (go_at_call 19; refine (cutp_yes _ _ _ HR.out).mono ?_; rintro e w' ⟨rfl, rfl⟩)
      go_ret2
      exact ⟨ret_ii H.out.1.symm H.out.2.symm, rfl⟩
    · have H : Hid (parseN s.data.toList = - countN r.data.toList 9007199254740992 ∧ parseE s.data.toList = countE r.data.toList 9007199254740992) :=
        Lib.hid ⟨by unfold parseN; rw [if_pos hh, htl, if_neg hz], by unfold parseE; rw [if_pos hh, htl, if_neg hz]⟩
      have b1 : (r.toList == [48]) = false := by rw [ByteArray.toList_eq]; exact beq_eq_false_iff_ne.2 hz
      have HR := Lib.hid hr
      obtain ⟨c0, c1⟩ := countN_bd r.data.toList 9007199254740992 (by omega)
      clear hh hr htl hz
      go_enter Try.func11, Try.ntmps11
      go_wp2_with (first | (go_at_call 19; refine (cutp_yes _ _ _ HR.out).mono ?_; rintro e w' ⟨rfl, rfl⟩) | (go_at_call 12; refine (Count_any _ _ _ hrs (by omega) (by omega)).mono ?_; rintro e w' ⟨rfl, rfl⟩))
      go_ret2
      exact ⟨ret_ii H.out.1.symm H.out.2.symm, rfl⟩
  · have H : Hid (parseN s.data.toList = countN s.data.toList 9007199254740992 ∧ parseE s.data.toList = countE s.data.toList 9007199254740992) :=
        Lib.hid ⟨by unfold parseN; rw [if_neg hh], by unfold parseE; rw [if_neg hh]⟩
    have HR := Lib.hid hh
    clear hh
    go_enter Try.func11, Try.ntmps11
    go_wp2_with (first | (go_at_call 19; refine (cutp_no _ _ HR.out).mono ?_; rintro e w' ⟨rfl, rfl⟩) | (go_at_call 12; refine (Count_any _ _ _ hs (by omega) (by omega)).mono ?_; rintro e w' ⟨rfl, rfl⟩))
    go_ret2
    exact ⟨ret_ii H.out.1.symm H.out.2.symm, rfl⟩

end Go.Proofs.Ytioplkdmkdhnfaa
