/- DigitBack: what is written is read as it was, and what is read is written as it was. -/
import Derived.Test.YtioplkdmkdhnfaaDigReads
import Derived.Test.YtioplkdmkdhnfaaDigBackMilli
namespace Go.Proofs.Ytioplkdmkdhnfaa
open Go.RowKit
open Dg
set_option linter.unusedVariables false
theorem size_mk (l : List UInt8) : (⟨l.toArray⟩ : ByteArray).size = l.length := by rw [← len_eq]
theorem mk_back {s : ByteArray} {l : List UInt8} (h : l = s.data.toList) : Ending.returned (.string ⟨l.toArray⟩) = .returned (.string s) := by rw [mk_of h]
theorem Text_back (s : ByteArray) (w : World) (h : parseE s.data.toList = 0) :
    Calls Try.prog 6 #[.int .i64 (parseN s.data.toList)] w fun e w' => e = .returned (.string s) ∧ Below w.heap.size w w' := by
  have hb := parseN_bd s.data.toList
  refine (Text_any _ w (by omega) (by omega)).mono ?_
  rintro e w1 ⟨rfl, hb1⟩
  exact ⟨mk_back (text_parse h), hb1⟩
theorem MilliText_back (s : ByteArray) (w : World) (h : milliE s.data.toList = 0) :
    Calls Try.prog 8 #[.int .i64 (milliN s.data.toList)] w fun e w' => e = .returned (.string s) ∧ Below w.heap.size w w' := by
  have hb := milliN_bd s.data.toList
  refine (MilliText_any _ w (by omega) (by omega)).mono ?_
  rintro e w1 ⟨rfl, hb1⟩
  exact ⟨mk_back (text_milli h), hb1⟩
set_option maxHeartbeats 2000000 in
theorem BackA11 (n : Int) (s : ByteArray) (w : World) (h1 : -9223372036854775808 ≤ n) (h2 : n ≤ 9223372036854775807) (hs : s.size ≤ 4000) (c1 : 0 ≤ n) (c2 : n ≤ 9007199254740992) (hp : parseE s.data.toList = 0) (hm : milliE s.data.toList = 0) :
    Calls Try.prog 5 #[.int .i64 n, .string s] w fun e w' => e = .returned (.bool true) ∧ Below w.heap.size w w' := by
  have hl : ¬ (4000 : Int) < (s.size : Int) := by omega
  have hmx : s.size ≤ maxLen := by unfold maxLen; omega
  have hmm : s.size ≤ 1048576 := by omega
  have ht1 := textL_len n h2 h1
  have ht2 := milliTL_len n h2
  have c3 : -9007199254740992 ≤ n := by omega
  obtain ⟨p1, p2⟩ := parse_text_ok (n := n) (by omega) (by omega)
  obtain ⟨m1, m2⟩ := milli_text_ok (n := n) (by omega) (by omega)
  go_enter Try.func5, Try.ntmps5
  go_wp2_with fail
  refine (Text_any n _ h1 h2).mono ?_
  rintro e w1 ⟨rfl, b1⟩
  go_wp2_with fail
  refine (Parse_any ⟨(textL n).toArray⟩ _ (by rw [size_mk]; unfold maxLen; omega)).mono ?_
  rintro e w2 ⟨rfl, rfl⟩
  go_wp2_with fail
  refine (MilliText_any n _ h1 h2).mono ?_
  rintro e w3 ⟨rfl, b3⟩
  replace b1 := Below.same b1 b3
  clear b3
  go_wp2_with fail
  refine (Milli_any ⟨(milliTL n).toArray⟩ _ (by rw [size_mk]; omega)).mono ?_
  rintro e w4 ⟨rfl, b4⟩
  replace b1 := Below.same b1 b4
  clear b4
  go_wp2_with fail
  refine (Parse_any s _ hmx).mono ?_
  rintro e w5 ⟨rfl, rfl⟩
  go_wp2_with fail
  refine (Text_back s _ hp).mono ?_
  rintro e w6 ⟨rfl, b6⟩
  replace b1 := Below.same b1 b6
  clear b6
  go_wp2_with fail
  refine (Milli_any s _ hmm).mono ?_
  rintro e w7 ⟨rfl, b7⟩
  replace b1 := Below.same b1 b7
  clear b7
  go_wp2_with fail
  refine (MilliText_back s _ hm).mono ?_
  rintro e w8 ⟨rfl, b8⟩
  replace b1 := Below.same b1 b8
  clear b8
  go_wp2_with fail
  refine (awake_any _).mono ?_
  rintro e w9 ⟨rfl, b9⟩
  replace b1 := Below.same b1 b9
  clear b9
  go_wp2
  go_ret
  exact ⟨rfl, b1⟩
set_option maxHeartbeats 2000000 in
theorem BackA10 (n : Int) (s : ByteArray) (w : World) (h1 : -9223372036854775808 ≤ n) (h2 : n ≤ 9223372036854775807) (hs : s.size ≤ 4000) (c1 : 0 ≤ n) (c2 : n ≤ 9007199254740992) (hp : parseE s.data.toList = 0) (hm : (milliE s.data.toList == 0) = false) :
    Calls Try.prog 5 #[.int .i64 n, .string s] w fun e w' => e = .returned (.bool true) ∧ Below w.heap.size w w' := by
  have hl : ¬ (4000 : Int) < (s.size : Int) := by omega
  have hmx : s.size ≤ maxLen := by unfold maxLen; omega
  have hmm : s.size ≤ 1048576 := by omega
  have ht1 := textL_len n h2 h1
  have ht2 := milliTL_len n h2
  have c3 : -9007199254740992 ≤ n := by omega
  obtain ⟨p1, p2⟩ := parse_text_ok (n := n) (by omega) (by omega)
  obtain ⟨m1, m2⟩ := milli_text_ok (n := n) (by omega) (by omega)
  go_enter Try.func5, Try.ntmps5
  go_wp2_with fail
  refine (Text_any n _ h1 h2).mono ?_
  rintro e w1 ⟨rfl, b1⟩
  go_wp2_with fail
  refine (Parse_any ⟨(textL n).toArray⟩ _ (by rw [size_mk]; unfold maxLen; omega)).mono ?_
  rintro e w2 ⟨rfl, rfl⟩
  go_wp2_with fail
  refine (MilliText_any n _ h1 h2).mono ?_
  rintro e w3 ⟨rfl, b3⟩
  replace b1 := Below.same b1 b3
  clear b3
  go_wp2_with fail
  refine (Milli_any ⟨(milliTL n).toArray⟩ _ (by rw [size_mk]; omega)).mono ?_
  rintro e w4 ⟨rfl, b4⟩
  replace b1 := Below.same b1 b4
  clear b4
  go_wp2_with fail
  refine (Parse_any s _ hmx).mono ?_
  rintro e w5 ⟨rfl, rfl⟩
  go_wp2_with fail
  refine (Text_back s _ hp).mono ?_
  rintro e w6 ⟨rfl, b6⟩
  replace b1 := Below.same b1 b6
  clear b6
  go_wp2_with fail
  refine (Milli_any s _ hmm).mono ?_
  rintro e w7 ⟨rfl, b7⟩
  replace b1 := Below.same b1 b7
  clear b7
  go_wp2_with fail
  refine (awake_any _).mono ?_
  rintro e w9 ⟨rfl, b9⟩
  replace b1 := Below.same b1 b9
  clear b9
  go_wp2
  go_ret
  exact ⟨rfl, b1⟩
set_option maxHeartbeats 2000000 in
theorem BackA01 (n : Int) (s : ByteArray) (w : World) (h1 : -9223372036854775808 ≤ n) (h2 : n ≤ 9223372036854775807) (hs : s.size ≤ 4000) (c1 : 0 ≤ n) (c2 : n ≤ 9007199254740992) (hp : (parseE s.data.toList == 0) = false) (hm : milliE s.data.toList = 0) :
    Calls Try.prog 5 #[.int .i64 n, .string s] w fun e w' => e = .returned (.bool true) ∧ Below w.heap.size w w' := by
  have hl : ¬ (4000 : Int) < (s.size : Int) := by omega
  have hmx : s.size ≤ maxLen := by unfold maxLen; omega
  have hmm : s.size ≤ 1048576 := by omega
  have ht1 := textL_len n h2 h1
  have ht2 := milliTL_len n h2
  have c3 : -9007199254740992 ≤ n := by omega
  obtain ⟨p1, p2⟩ := parse_text_ok (n := n) (by omega) (by omega)
  obtain ⟨m1, m2⟩ := milli_text_ok (n := n) (by omega) (by omega)
  go_enter Try.func5, Try.ntmps5
  go_wp2_with fail
  refine (Text_any n _ h1 h2).mono ?_
  rintro e w1 ⟨rfl, b1⟩
  go_wp2_with fail
  refine (Parse_any ⟨(textL n).toArray⟩ _ (by rw [size_mk]; unfold maxLen; omega)).mono ?_
  rintro e w2 ⟨rfl, rfl⟩
  go_wp2_with fail
  refine (MilliText_any n _ h1 h2).mono ?_
  rintro e w3 ⟨rfl, b3⟩
  replace b1 := Below.same b1 b3
  clear b3
  go_wp2_with fail
  refine (Milli_any ⟨(milliTL n).toArray⟩ _ (by rw [size_mk]; omega)).mono ?_
  rintro e w4 ⟨rfl, b4⟩
  replace b1 := Below.same b1 b4
  clear b4
  go_wp2_with fail
  refine (Parse_any s _ hmx).mono ?_
  rintro e w5 ⟨rfl, rfl⟩
  go_wp2_with fail
  refine (Milli_any s _ hmm).mono ?_
  rintro e w7 ⟨rfl, b7⟩
  replace b1 := Below.same b1 b7
  clear b7
  go_wp2_with fail
  refine (MilliText_back s _ hm).mono ?_
  rintro e w8 ⟨rfl, b8⟩
  replace b1 := Below.same b1 b8
  clear b8
  go_wp2_with fail
  refine (awake_any _).mono ?_
  rintro e w9 ⟨rfl, b9⟩
  replace b1 := Below.same b1 b9
  clear b9
  go_wp2
  go_ret
  exact ⟨rfl, b1⟩
set_option maxHeartbeats 2000000 in
theorem BackA00 (n : Int) (s : ByteArray) (w : World) (h1 : -9223372036854775808 ≤ n) (h2 : n ≤ 9223372036854775807) (hs : s.size ≤ 4000) (c1 : 0 ≤ n) (c2 : n ≤ 9007199254740992) (hp : (parseE s.data.toList == 0) = false) (hm : (milliE s.data.toList == 0) = false) :
    Calls Try.prog 5 #[.int .i64 n, .string s] w fun e w' => e = .returned (.bool true) ∧ Below w.heap.size w w' := by
  have hl : ¬ (4000 : Int) < (s.size : Int) := by omega
  have hmx : s.size ≤ maxLen := by unfold maxLen; omega
  have hmm : s.size ≤ 1048576 := by omega
  have ht1 := textL_len n h2 h1
  have ht2 := milliTL_len n h2
  have c3 : -9007199254740992 ≤ n := by omega
  obtain ⟨p1, p2⟩ := parse_text_ok (n := n) (by omega) (by omega)
  obtain ⟨m1, m2⟩ := milli_text_ok (n := n) (by omega) (by omega)
  go_enter Try.func5, Try.ntmps5
  go_wp2_with fail
  refine (Text_any n _ h1 h2).mono ?_
  rintro e w1 ⟨rfl, b1⟩
  go_wp2_with fail
  refine (Parse_any ⟨(textL n).toArray⟩ _ (by rw [size_mk]; unfold maxLen; omega)).mono ?_
  rintro e w2 ⟨rfl, rfl⟩
  go_wp2_with fail
  refine (MilliText_any n _ h1 h2).mono ?_
  rintro e w3 ⟨rfl, b3⟩
  replace b1 := Below.same b1 b3
  clear b3
  go_wp2_with fail
  refine (Milli_any ⟨(milliTL n).toArray⟩ _ (by rw [size_mk]; omega)).mono ?_
  rintro e w4 ⟨rfl, b4⟩
  replace b1 := Below.same b1 b4
  clear b4
  go_wp2_with fail
  refine (Parse_any s _ hmx).mono ?_
  rintro e w5 ⟨rfl, rfl⟩
  go_wp2_with fail
  refine (Milli_any s _ hmm).mono ?_
  rintro e w7 ⟨rfl, b7⟩
  replace b1 := Below.same b1 b7
  clear b7
  go_wp2_with fail
  refine (awake_any _).mono ?_
  rintro e w9 ⟨rfl, b9⟩
  replace b1 := Below.same b1 b9
  clear b9
  go_wp2
  go_ret
  exact ⟨rfl, b1⟩
set_option maxHeartbeats 2000000 in
theorem BackB11 (n : Int) (s : ByteArray) (w : World) (h1 : -9223372036854775808 ≤ n) (h2 : n ≤ 9223372036854775807) (hs : s.size ≤ 4000) (c1 : n < 0) (c3 : -9007199254740992 ≤ n) (hp : parseE s.data.toList = 0) (hm : milliE s.data.toList = 0) :
    Calls Try.prog 5 #[.int .i64 n, .string s] w fun e w' => e = .returned (.bool true) ∧ Below w.heap.size w w' := by
  have hl : ¬ (4000 : Int) < (s.size : Int) := by omega
  have hmx : s.size ≤ maxLen := by unfold maxLen; omega
  have hmm : s.size ≤ 1048576 := by omega
  have ht1 := textL_len n h2 h1
  have ht2 := milliTL_len n h2
  have c2 : n ≤ 9007199254740992 := by omega
  have c4 : ¬ (0 ≤ n) := by omega
  obtain ⟨p1, p2⟩ := parse_text_ok (n := n) (by omega) (by omega)
  go_enter Try.func5, Try.ntmps5
  go_wp2_with fail
  refine (Text_any n _ h1 h2).mono ?_
  rintro e w1 ⟨rfl, b1⟩
  go_wp2_with fail
  refine (Parse_any ⟨(textL n).toArray⟩ _ (by rw [size_mk]; unfold maxLen; omega)).mono ?_
  rintro e w2 ⟨rfl, rfl⟩
  go_wp2_with fail
  refine (MilliText_any n _ h1 h2).mono ?_
  rintro e w3 ⟨rfl, b3⟩
  replace b1 := Below.same b1 b3
  clear b3
  go_wp2_with fail
  refine (Milli_any ⟨(milliTL n).toArray⟩ _ (by rw [size_mk]; omega)).mono ?_
  rintro e w4 ⟨rfl, b4⟩
  replace b1 := Below.same b1 b4
  clear b4
  go_wp2_with fail
  refine (Parse_any s _ hmx).mono ?_
  rintro e w5 ⟨rfl, rfl⟩
  go_wp2_with fail
  refine (Text_back s _ hp).mono ?_
  rintro e w6 ⟨rfl, b6⟩
  replace b1 := Below.same b1 b6
  clear b6
  go_wp2_with fail
  refine (Milli_any s _ hmm).mono ?_
  rintro e w7 ⟨rfl, b7⟩
  replace b1 := Below.same b1 b7
  clear b7
  go_wp2_with fail
  refine (MilliText_back s _ hm).mono ?_
  rintro e w8 ⟨rfl, b8⟩
  replace b1 := Below.same b1 b8
  clear b8
  go_wp2_with fail
  refine (awake_any _).mono ?_
  rintro e w9 ⟨rfl, b9⟩
  replace b1 := Below.same b1 b9
  clear b9
  go_wp2
  go_ret
  exact ⟨rfl, b1⟩
set_option maxHeartbeats 2000000 in
theorem BackB10 (n : Int) (s : ByteArray) (w : World) (h1 : -9223372036854775808 ≤ n) (h2 : n ≤ 9223372036854775807) (hs : s.size ≤ 4000) (c1 : n < 0) (c3 : -9007199254740992 ≤ n) (hp : parseE s.data.toList = 0) (hm : (milliE s.data.toList == 0) = false) :
    Calls Try.prog 5 #[.int .i64 n, .string s] w fun e w' => e = .returned (.bool true) ∧ Below w.heap.size w w' := by
  have hl : ¬ (4000 : Int) < (s.size : Int) := by omega
  have hmx : s.size ≤ maxLen := by unfold maxLen; omega
  have hmm : s.size ≤ 1048576 := by omega
  have ht1 := textL_len n h2 h1
  have ht2 := milliTL_len n h2
  have c2 : n ≤ 9007199254740992 := by omega
  have c4 : ¬ (0 ≤ n) := by omega
  obtain ⟨p1, p2⟩ := parse_text_ok (n := n) (by omega) (by omega)
  go_enter Try.func5, Try.ntmps5
  go_wp2_with fail
  refine (Text_any n _ h1 h2).mono ?_
  rintro e w1 ⟨rfl, b1⟩
  go_wp2_with fail
  refine (Parse_any ⟨(textL n).toArray⟩ _ (by rw [size_mk]; unfold maxLen; omega)).mono ?_
  rintro e w2 ⟨rfl, rfl⟩
  go_wp2_with fail
  refine (MilliText_any n _ h1 h2).mono ?_
  rintro e w3 ⟨rfl, b3⟩
  replace b1 := Below.same b1 b3
  clear b3
  go_wp2_with fail
  refine (Milli_any ⟨(milliTL n).toArray⟩ _ (by rw [size_mk]; omega)).mono ?_
  rintro e w4 ⟨rfl, b4⟩
  replace b1 := Below.same b1 b4
  clear b4
  go_wp2_with fail
  refine (Parse_any s _ hmx).mono ?_
  rintro e w5 ⟨rfl, rfl⟩
  go_wp2_with fail
  refine (Text_back s _ hp).mono ?_
  rintro e w6 ⟨rfl, b6⟩
  replace b1 := Below.same b1 b6
  clear b6
  go_wp2_with fail
  refine (Milli_any s _ hmm).mono ?_
  rintro e w7 ⟨rfl, b7⟩
  replace b1 := Below.same b1 b7
  clear b7
  go_wp2_with fail
  refine (awake_any _).mono ?_
  rintro e w9 ⟨rfl, b9⟩
  replace b1 := Below.same b1 b9
  clear b9
  go_wp2
  go_ret
  exact ⟨rfl, b1⟩
set_option maxHeartbeats 2000000 in
theorem BackB01 (n : Int) (s : ByteArray) (w : World) (h1 : -9223372036854775808 ≤ n) (h2 : n ≤ 9223372036854775807) (hs : s.size ≤ 4000) (c1 : n < 0) (c3 : -9007199254740992 ≤ n) (hp : (parseE s.data.toList == 0) = false) (hm : milliE s.data.toList = 0) :
    Calls Try.prog 5 #[.int .i64 n, .string s] w fun e w' => e = .returned (.bool true) ∧ Below w.heap.size w w' := by
  have hl : ¬ (4000 : Int) < (s.size : Int) := by omega
  have hmx : s.size ≤ maxLen := by unfold maxLen; omega
  have hmm : s.size ≤ 1048576 := by omega
  have ht1 := textL_len n h2 h1
  have ht2 := milliTL_len n h2
  have c2 : n ≤ 9007199254740992 := by omega
  have c4 : ¬ (0 ≤ n) := by omega
  obtain ⟨p1, p2⟩ := parse_text_ok (n := n) (by omega) (by omega)
  go_enter Try.func5, Try.ntmps5
  go_wp2_with fail
  refine (Text_any n _ h1 h2).mono ?_
  rintro e w1 ⟨rfl, b1⟩
  go_wp2_with fail
  refine (Parse_any ⟨(textL n).toArray⟩ _ (by rw [size_mk]; unfold maxLen; omega)).mono ?_
  rintro e w2 ⟨rfl, rfl⟩
  go_wp2_with fail
  refine (MilliText_any n _ h1 h2).mono ?_
  rintro e w3 ⟨rfl, b3⟩
  replace b1 := Below.same b1 b3
  clear b3
  go_wp2_with fail
  refine (Milli_any ⟨(milliTL n).toArray⟩ _ (by rw [size_mk]; omega)).mono ?_
  rintro e w4 ⟨rfl, b4⟩
  replace b1 := Below.same b1 b4
  clear b4
  go_wp2_with fail
  refine (Parse_any s _ hmx).mono ?_
  rintro e w5 ⟨rfl, rfl⟩
  go_wp2_with fail
  refine (Milli_any s _ hmm).mono ?_
  rintro e w7 ⟨rfl, b7⟩
  replace b1 := Below.same b1 b7
  clear b7
  go_wp2_with fail
  refine (MilliText_back s _ hm).mono ?_
  rintro e w8 ⟨rfl, b8⟩
  replace b1 := Below.same b1 b8
  clear b8
  go_wp2_with fail
  refine (awake_any _).mono ?_
  rintro e w9 ⟨rfl, b9⟩
  replace b1 := Below.same b1 b9
  clear b9
  go_wp2
  go_ret
  exact ⟨rfl, b1⟩
set_option maxHeartbeats 2000000 in
theorem BackB00 (n : Int) (s : ByteArray) (w : World) (h1 : -9223372036854775808 ≤ n) (h2 : n ≤ 9223372036854775807) (hs : s.size ≤ 4000) (c1 : n < 0) (c3 : -9007199254740992 ≤ n) (hp : (parseE s.data.toList == 0) = false) (hm : (milliE s.data.toList == 0) = false) :
    Calls Try.prog 5 #[.int .i64 n, .string s] w fun e w' => e = .returned (.bool true) ∧ Below w.heap.size w w' := by
  have hl : ¬ (4000 : Int) < (s.size : Int) := by omega
  have hmx : s.size ≤ maxLen := by unfold maxLen; omega
  have hmm : s.size ≤ 1048576 := by omega
  have ht1 := textL_len n h2 h1
  have ht2 := milliTL_len n h2
  have c2 : n ≤ 9007199254740992 := by omega
  have c4 : ¬ (0 ≤ n) := by omega
  obtain ⟨p1, p2⟩ := parse_text_ok (n := n) (by omega) (by omega)
  go_enter Try.func5, Try.ntmps5
  go_wp2_with fail
  refine (Text_any n _ h1 h2).mono ?_
  rintro e w1 ⟨rfl, b1⟩
  go_wp2_with fail
  refine (Parse_any ⟨(textL n).toArray⟩ _ (by rw [size_mk]; unfold maxLen; omega)).mono ?_
  rintro e w2 ⟨rfl, rfl⟩
  go_wp2_with fail
  refine (MilliText_any n _ h1 h2).mono ?_
  rintro e w3 ⟨rfl, b3⟩
  replace b1 := Below.same b1 b3
  clear b3
  go_wp2_with fail
  refine (Milli_any ⟨(milliTL n).toArray⟩ _ (by rw [size_mk]; omega)).mono ?_
  rintro e w4 ⟨rfl, b4⟩
  replace b1 := Below.same b1 b4
  clear b4
  go_wp2_with fail
  refine (Parse_any s _ hmx).mono ?_
  rintro e w5 ⟨rfl, rfl⟩
  go_wp2_with fail
  refine (Milli_any s _ hmm).mono ?_
  rintro e w7 ⟨rfl, b7⟩
  replace b1 := Below.same b1 b7
  clear b7
  go_wp2_with fail
  refine (awake_any _).mono ?_
  rintro e w9 ⟨rfl, b9⟩
  replace b1 := Below.same b1 b9
  clear b9
  go_wp2
  go_ret
  exact ⟨rfl, b1⟩
set_option maxHeartbeats 2000000 in
theorem BackC11 (n : Int) (s : ByteArray) (w : World) (h1 : -9223372036854775808 ≤ n) (h2 : n ≤ 9223372036854775807) (hs : s.size ≤ 4000) (c1 : 9007199254740992 < n) (hp : parseE s.data.toList = 0) (hm : milliE s.data.toList = 0) :
    Calls Try.prog 5 #[.int .i64 n, .string s] w fun e w' => e = .returned (.bool true) ∧ Below w.heap.size w w' := by
  have hl : ¬ (4000 : Int) < (s.size : Int) := by omega
  have hmx : s.size ≤ maxLen := by unfold maxLen; omega
  have hmm : s.size ≤ 1048576 := by omega
  have ht1 := textL_len n h2 h1
  have ht2 := milliTL_len n h2
  have c2 : ¬ n ≤ 9007199254740992 := by omega
  have c4 : 0 ≤ n := by omega
  have p2 := parse_text_big (n := n) (by omega)
  go_enter Try.func5, Try.ntmps5
  go_wp2_with fail
  refine (Text_any n _ h1 h2).mono ?_
  rintro e w1 ⟨rfl, b1⟩
  go_wp2_with fail
  refine (Parse_any ⟨(textL n).toArray⟩ _ (by rw [size_mk]; unfold maxLen; omega)).mono ?_
  rintro e w2 ⟨rfl, rfl⟩
  go_wp2_with fail
  refine (MilliText_any n _ h1 h2).mono ?_
  rintro e w3 ⟨rfl, b3⟩
  replace b1 := Below.same b1 b3
  clear b3
  go_wp2_with fail
  refine (Milli_any ⟨(milliTL n).toArray⟩ _ (by rw [size_mk]; omega)).mono ?_
  rintro e w4 ⟨rfl, b4⟩
  replace b1 := Below.same b1 b4
  clear b4
  go_wp2_with fail
  refine (Parse_any s _ hmx).mono ?_
  rintro e w5 ⟨rfl, rfl⟩
  go_wp2_with fail
  refine (Text_back s _ hp).mono ?_
  rintro e w6 ⟨rfl, b6⟩
  replace b1 := Below.same b1 b6
  clear b6
  go_wp2_with fail
  refine (Milli_any s _ hmm).mono ?_
  rintro e w7 ⟨rfl, b7⟩
  replace b1 := Below.same b1 b7
  clear b7
  go_wp2_with fail
  refine (MilliText_back s _ hm).mono ?_
  rintro e w8 ⟨rfl, b8⟩
  replace b1 := Below.same b1 b8
  clear b8
  go_wp2_with fail
  refine (awake_any _).mono ?_
  rintro e w9 ⟨rfl, b9⟩
  replace b1 := Below.same b1 b9
  clear b9
  go_wp2
  go_ret
  exact ⟨rfl, b1⟩
set_option maxHeartbeats 2000000 in
theorem BackC10 (n : Int) (s : ByteArray) (w : World) (h1 : -9223372036854775808 ≤ n) (h2 : n ≤ 9223372036854775807) (hs : s.size ≤ 4000) (c1 : 9007199254740992 < n) (hp : parseE s.data.toList = 0) (hm : (milliE s.data.toList == 0) = false) :
    Calls Try.prog 5 #[.int .i64 n, .string s] w fun e w' => e = .returned (.bool true) ∧ Below w.heap.size w w' := by
  have hl : ¬ (4000 : Int) < (s.size : Int) := by omega
  have hmx : s.size ≤ maxLen := by unfold maxLen; omega
  have hmm : s.size ≤ 1048576 := by omega
  have ht1 := textL_len n h2 h1
  have ht2 := milliTL_len n h2
  have c2 : ¬ n ≤ 9007199254740992 := by omega
  have c4 : 0 ≤ n := by omega
  have p2 := parse_text_big (n := n) (by omega)
  go_enter Try.func5, Try.ntmps5
  go_wp2_with fail
  refine (Text_any n _ h1 h2).mono ?_
  rintro e w1 ⟨rfl, b1⟩
  go_wp2_with fail
  refine (Parse_any ⟨(textL n).toArray⟩ _ (by rw [size_mk]; unfold maxLen; omega)).mono ?_
  rintro e w2 ⟨rfl, rfl⟩
  go_wp2_with fail
  refine (MilliText_any n _ h1 h2).mono ?_
  rintro e w3 ⟨rfl, b3⟩
  replace b1 := Below.same b1 b3
  clear b3
  go_wp2_with fail
  refine (Milli_any ⟨(milliTL n).toArray⟩ _ (by rw [size_mk]; omega)).mono ?_
  rintro e w4 ⟨rfl, b4⟩
  replace b1 := Below.same b1 b4
  clear b4
  go_wp2_with fail
  refine (Parse_any s _ hmx).mono ?_
  rintro e w5 ⟨rfl, rfl⟩
  go_wp2_with fail
  refine (Text_back s _ hp).mono ?_
  rintro e w6 ⟨rfl, b6⟩
  replace b1 := Below.same b1 b6
  clear b6
  go_wp2_with fail
  refine (Milli_any s _ hmm).mono ?_
  rintro e w7 ⟨rfl, b7⟩
  replace b1 := Below.same b1 b7
  clear b7
  go_wp2_with fail
  refine (awake_any _).mono ?_
  rintro e w9 ⟨rfl, b9⟩
  replace b1 := Below.same b1 b9
  clear b9
  go_wp2
  go_ret
  exact ⟨rfl, b1⟩
set_option maxHeartbeats 2000000 in
theorem BackC01 (n : Int) (s : ByteArray) (w : World) (h1 : -9223372036854775808 ≤ n) (h2 : n ≤ 9223372036854775807) (hs : s.size ≤ 4000) (c1 : 9007199254740992 < n) (hp : (parseE s.data.toList == 0) = false) (hm : milliE s.data.toList = 0) :
    Calls Try.prog 5 #[.int .i64 n, .string s] w fun e w' => e = .returned (.bool true) ∧ Below w.heap.size w w' := by
  have hl : ¬ (4000 : Int) < (s.size : Int) := by omega
  have hmx : s.size ≤ maxLen := by unfold maxLen; omega
  have hmm : s.size ≤ 1048576 := by omega
  have ht1 := textL_len n h2 h1
  have ht2 := milliTL_len n h2
  have c2 : ¬ n ≤ 9007199254740992 := by omega
  have c4 : 0 ≤ n := by omega
  have p2 := parse_text_big (n := n) (by omega)
  go_enter Try.func5, Try.ntmps5
  go_wp2_with fail
  refine (Text_any n _ h1 h2).mono ?_
  rintro e w1 ⟨rfl, b1⟩
  go_wp2_with fail
  refine (Parse_any ⟨(textL n).toArray⟩ _ (by rw [size_mk]; unfold maxLen; omega)).mono ?_
  rintro e w2 ⟨rfl, rfl⟩
  go_wp2_with fail
  refine (MilliText_any n _ h1 h2).mono ?_
  rintro e w3 ⟨rfl, b3⟩
  replace b1 := Below.same b1 b3
  clear b3
  go_wp2_with fail
  refine (Milli_any ⟨(milliTL n).toArray⟩ _ (by rw [size_mk]; omega)).mono ?_
  rintro e w4 ⟨rfl, b4⟩
  replace b1 := Below.same b1 b4
  clear b4
  go_wp2_with fail
  refine (Parse_any s _ hmx).mono ?_
  rintro e w5 ⟨rfl, rfl⟩
  go_wp2_with fail
  refine (Milli_any s _ hmm).mono ?_
  rintro e w7 ⟨rfl, b7⟩
  replace b1 := Below.same b1 b7
  clear b7
  go_wp2_with fail
  refine (MilliText_back s _ hm).mono ?_
  rintro e w8 ⟨rfl, b8⟩
  replace b1 := Below.same b1 b8
  clear b8
  go_wp2_with fail
  refine (awake_any _).mono ?_
  rintro e w9 ⟨rfl, b9⟩
  replace b1 := Below.same b1 b9
  clear b9
  go_wp2
  go_ret
  exact ⟨rfl, b1⟩
set_option maxHeartbeats 2000000 in
theorem BackC00 (n : Int) (s : ByteArray) (w : World) (h1 : -9223372036854775808 ≤ n) (h2 : n ≤ 9223372036854775807) (hs : s.size ≤ 4000) (c1 : 9007199254740992 < n) (hp : (parseE s.data.toList == 0) = false) (hm : (milliE s.data.toList == 0) = false) :
    Calls Try.prog 5 #[.int .i64 n, .string s] w fun e w' => e = .returned (.bool true) ∧ Below w.heap.size w w' := by
  have hl : ¬ (4000 : Int) < (s.size : Int) := by omega
  have hmx : s.size ≤ maxLen := by unfold maxLen; omega
  have hmm : s.size ≤ 1048576 := by omega
  have ht1 := textL_len n h2 h1
  have ht2 := milliTL_len n h2
  have c2 : ¬ n ≤ 9007199254740992 := by omega
  have c4 : 0 ≤ n := by omega
  have p2 := parse_text_big (n := n) (by omega)
  go_enter Try.func5, Try.ntmps5
  go_wp2_with fail
  refine (Text_any n _ h1 h2).mono ?_
  rintro e w1 ⟨rfl, b1⟩
  go_wp2_with fail
  refine (Parse_any ⟨(textL n).toArray⟩ _ (by rw [size_mk]; unfold maxLen; omega)).mono ?_
  rintro e w2 ⟨rfl, rfl⟩
  go_wp2_with fail
  refine (MilliText_any n _ h1 h2).mono ?_
  rintro e w3 ⟨rfl, b3⟩
  replace b1 := Below.same b1 b3
  clear b3
  go_wp2_with fail
  refine (Milli_any ⟨(milliTL n).toArray⟩ _ (by rw [size_mk]; omega)).mono ?_
  rintro e w4 ⟨rfl, b4⟩
  replace b1 := Below.same b1 b4
  clear b4
  go_wp2_with fail
  refine (Parse_any s _ hmx).mono ?_
  rintro e w5 ⟨rfl, rfl⟩
  go_wp2_with fail
  refine (Milli_any s _ hmm).mono ?_
  rintro e w7 ⟨rfl, b7⟩
  replace b1 := Below.same b1 b7
  clear b7
  go_wp2_with fail
  refine (awake_any _).mono ?_
  rintro e w9 ⟨rfl, b9⟩
  replace b1 := Below.same b1 b9
  clear b9
  go_wp2
  go_ret
  exact ⟨rfl, b1⟩
set_option maxHeartbeats 2000000 in
theorem BackD11 (n : Int) (s : ByteArray) (w : World) (h1 : -9223372036854775808 ≤ n) (h2 : n ≤ 9223372036854775807) (hs : s.size ≤ 4000) (c1 : n < -9007199254740992) (hp : parseE s.data.toList = 0) (hm : milliE s.data.toList = 0) :
    Calls Try.prog 5 #[.int .i64 n, .string s] w fun e w' => e = .returned (.bool true) ∧ Below w.heap.size w w' := by
  have hl : ¬ (4000 : Int) < (s.size : Int) := by omega
  have hmx : s.size ≤ maxLen := by unfold maxLen; omega
  have hmm : s.size ≤ 1048576 := by omega
  have ht1 := textL_len n h2 h1
  have ht2 := milliTL_len n h2
  have c2 : n ≤ 9007199254740992 := by omega
  have c3 : ¬ -9007199254740992 ≤ n := by omega
  have c4 : ¬ (0 ≤ n) := by omega
  have p2 := parse_text_big (n := n) (by omega)
  go_enter Try.func5, Try.ntmps5
  go_wp2_with fail
  refine (Text_any n _ h1 h2).mono ?_
  rintro e w1 ⟨rfl, b1⟩
  go_wp2_with fail
  refine (Parse_any ⟨(textL n).toArray⟩ _ (by rw [size_mk]; unfold maxLen; omega)).mono ?_
  rintro e w2 ⟨rfl, rfl⟩
  go_wp2_with fail
  refine (MilliText_any n _ h1 h2).mono ?_
  rintro e w3 ⟨rfl, b3⟩
  replace b1 := Below.same b1 b3
  clear b3
  go_wp2_with fail
  refine (Milli_any ⟨(milliTL n).toArray⟩ _ (by rw [size_mk]; omega)).mono ?_
  rintro e w4 ⟨rfl, b4⟩
  replace b1 := Below.same b1 b4
  clear b4
  go_wp2_with fail
  refine (Parse_any s _ hmx).mono ?_
  rintro e w5 ⟨rfl, rfl⟩
  go_wp2_with fail
  refine (Text_back s _ hp).mono ?_
  rintro e w6 ⟨rfl, b6⟩
  replace b1 := Below.same b1 b6
  clear b6
  go_wp2_with fail
  refine (Milli_any s _ hmm).mono ?_
  rintro e w7 ⟨rfl, b7⟩
  replace b1 := Below.same b1 b7
  clear b7
  go_wp2_with fail
  refine (MilliText_back s _ hm).mono ?_
  rintro e w8 ⟨rfl, b8⟩
  replace b1 := Below.same b1 b8
  clear b8
  go_wp2_with fail
  refine (awake_any _).mono ?_
  rintro e w9 ⟨rfl, b9⟩
  replace b1 := Below.same b1 b9
  clear b9
  go_wp2
  go_ret
  exact ⟨rfl, b1⟩
set_option maxHeartbeats 2000000 in
theorem BackD10 (n : Int) (s : ByteArray) (w : World) (h1 : -9223372036854775808 ≤ n) (h2 : n ≤ 9223372036854775807) (hs : s.size ≤ 4000) (c1 : n < -9007199254740992) (hp : parseE s.data.toList = 0) (hm : (milliE s.data.toList == 0) = false) :
    Calls Try.prog 5 #[.int .i64 n, .string s] w fun e w' => e = .returned (.bool true) ∧ Below w.heap.size w w' := by
  have hl : ¬ (4000 : Int) < (s.size : Int) := by omega
  have hmx : s.size ≤ maxLen := by unfold maxLen; omega
  have hmm : s.size ≤ 1048576 := by omega
  have ht1 := textL_len n h2 h1
  have ht2 := milliTL_len n h2
  have c2 : n ≤ 9007199254740992 := by omega
  have c3 : ¬ -9007199254740992 ≤ n := by omega
  have c4 : ¬ (0 ≤ n) := by omega
  have p2 := parse_text_big (n := n) (by omega)
  go_enter Try.func5, Try.ntmps5
  go_wp2_with fail
  refine (Text_any n _ h1 h2).mono ?_
  rintro e w1 ⟨rfl, b1⟩
  go_wp2_with fail
  refine (Parse_any ⟨(textL n).toArray⟩ _ (by rw [size_mk]; unfold maxLen; omega)).mono ?_
  rintro e w2 ⟨rfl, rfl⟩
  go_wp2_with fail
  refine (MilliText_any n _ h1 h2).mono ?_
  rintro e w3 ⟨rfl, b3⟩
  replace b1 := Below.same b1 b3
  clear b3
  go_wp2_with fail
  refine (Milli_any ⟨(milliTL n).toArray⟩ _ (by rw [size_mk]; omega)).mono ?_
  rintro e w4 ⟨rfl, b4⟩
  replace b1 := Below.same b1 b4
  clear b4
  go_wp2_with fail
  refine (Parse_any s _ hmx).mono ?_
  rintro e w5 ⟨rfl, rfl⟩
  go_wp2_with fail
  refine (Text_back s _ hp).mono ?_
  rintro e w6 ⟨rfl, b6⟩
  replace b1 := Below.same b1 b6
  clear b6
  go_wp2_with fail
  refine (Milli_any s _ hmm).mono ?_
  rintro e w7 ⟨rfl, b7⟩
  replace b1 := Below.same b1 b7
  clear b7
  go_wp2_with fail
  refine (awake_any _).mono ?_
  rintro e w9 ⟨rfl, b9⟩
  replace b1 := Below.same b1 b9
  clear b9
  go_wp2
  go_ret
  exact ⟨rfl, b1⟩
set_option maxHeartbeats 2000000 in
theorem BackD01 (n : Int) (s : ByteArray) (w : World) (h1 : -9223372036854775808 ≤ n) (h2 : n ≤ 9223372036854775807) (hs : s.size ≤ 4000) (c1 : n < -9007199254740992) (hp : (parseE s.data.toList == 0) = false) (hm : milliE s.data.toList = 0) :
    Calls Try.prog 5 #[.int .i64 n, .string s] w fun e w' => e = .returned (.bool true) ∧ Below w.heap.size w w' := by
  have hl : ¬ (4000 : Int) < (s.size : Int) := by omega
  have hmx : s.size ≤ maxLen := by unfold maxLen; omega
  have hmm : s.size ≤ 1048576 := by omega
  have ht1 := textL_len n h2 h1
  have ht2 := milliTL_len n h2
  have c2 : n ≤ 9007199254740992 := by omega
  have c3 : ¬ -9007199254740992 ≤ n := by omega
  have c4 : ¬ (0 ≤ n) := by omega
  have p2 := parse_text_big (n := n) (by omega)
  go_enter Try.func5, Try.ntmps5
  go_wp2_with fail
  refine (Text_any n _ h1 h2).mono ?_
  rintro e w1 ⟨rfl, b1⟩
  go_wp2_with fail
  refine (Parse_any ⟨(textL n).toArray⟩ _ (by rw [size_mk]; unfold maxLen; omega)).mono ?_
  rintro e w2 ⟨rfl, rfl⟩
  go_wp2_with fail
  refine (MilliText_any n _ h1 h2).mono ?_
  rintro e w3 ⟨rfl, b3⟩
  replace b1 := Below.same b1 b3
  clear b3
  go_wp2_with fail
  refine (Milli_any ⟨(milliTL n).toArray⟩ _ (by rw [size_mk]; omega)).mono ?_
  rintro e w4 ⟨rfl, b4⟩
  replace b1 := Below.same b1 b4
  clear b4
  go_wp2_with fail
  refine (Parse_any s _ hmx).mono ?_
  rintro e w5 ⟨rfl, rfl⟩
  go_wp2_with fail
  refine (Milli_any s _ hmm).mono ?_
  rintro e w7 ⟨rfl, b7⟩
  replace b1 := Below.same b1 b7
  clear b7
  go_wp2_with fail
  refine (MilliText_back s _ hm).mono ?_
  rintro e w8 ⟨rfl, b8⟩
  replace b1 := Below.same b1 b8
  clear b8
  go_wp2_with fail
  refine (awake_any _).mono ?_
  rintro e w9 ⟨rfl, b9⟩
  replace b1 := Below.same b1 b9
  clear b9
  go_wp2
  go_ret
  exact ⟨rfl, b1⟩
set_option maxHeartbeats 2000000 in
theorem BackD00 (n : Int) (s : ByteArray) (w : World) (h1 : -9223372036854775808 ≤ n) (h2 : n ≤ 9223372036854775807) (hs : s.size ≤ 4000) (c1 : n < -9007199254740992) (hp : (parseE s.data.toList == 0) = false) (hm : (milliE s.data.toList == 0) = false) :
    Calls Try.prog 5 #[.int .i64 n, .string s] w fun e w' => e = .returned (.bool true) ∧ Below w.heap.size w w' := by
  have hl : ¬ (4000 : Int) < (s.size : Int) := by omega
  have hmx : s.size ≤ maxLen := by unfold maxLen; omega
  have hmm : s.size ≤ 1048576 := by omega
  have ht1 := textL_len n h2 h1
  have ht2 := milliTL_len n h2
  have c2 : n ≤ 9007199254740992 := by omega
  have c3 : ¬ -9007199254740992 ≤ n := by omega
  have c4 : ¬ (0 ≤ n) := by omega
  have p2 := parse_text_big (n := n) (by omega)
  go_enter Try.func5, Try.ntmps5
  go_wp2_with fail
  refine (Text_any n _ h1 h2).mono ?_
  rintro e w1 ⟨rfl, b1⟩
  go_wp2_with fail
  refine (Parse_any ⟨(textL n).toArray⟩ _ (by rw [size_mk]; unfold maxLen; omega)).mono ?_
  rintro e w2 ⟨rfl, rfl⟩
  go_wp2_with fail
  refine (MilliText_any n _ h1 h2).mono ?_
  rintro e w3 ⟨rfl, b3⟩
  replace b1 := Below.same b1 b3
  clear b3
  go_wp2_with fail
  refine (Milli_any ⟨(milliTL n).toArray⟩ _ (by rw [size_mk]; omega)).mono ?_
  rintro e w4 ⟨rfl, b4⟩
  replace b1 := Below.same b1 b4
  clear b4
  go_wp2_with fail
  refine (Parse_any s _ hmx).mono ?_
  rintro e w5 ⟨rfl, rfl⟩
  go_wp2_with fail
  refine (Milli_any s _ hmm).mono ?_
  rintro e w7 ⟨rfl, b7⟩
  replace b1 := Below.same b1 b7
  clear b7
  go_wp2_with fail
  refine (awake_any _).mono ?_
  rintro e w9 ⟨rfl, b9⟩
  replace b1 := Below.same b1 b9
  clear b9
  go_wp2
  go_ret
  exact ⟨rfl, b1⟩
set_option maxHeartbeats 2000000 in
theorem DigitBack_walk (n : Int) (s : ByteArray) (hn : (Lit.int .i64 n).wf = true) (hs : s.size ≤ maxLen) (w : World) :
    Calls Try.prog 5 #[.int .i64 n, .string s] w fun e w' => e = .returned (.bool true) ∧ Below w.heap.size w w' := by
  have hx : -9223372036854775808 ≤ n ∧ n ≤ 9223372036854775807 := by simpa [Lit.wf, IntKind.min, IntKind.max, IntKind.signed, IntKind.bits] using hn
  obtain ⟨h1, h2⟩ := hx
  clear hn
  have hs' := hs
  unfold maxLen at hs'
  by_cases hlen : 4000 < s.size
  · have hlen' : (4000 : Int) < (s.size : Int) := by omega
    go_enter Try.func5, Try.ntmps5
    go_wp2_with (go_at_call 10; refine (awake_any _).mono ?_; rintro e w5 ⟨rfl, hb5⟩)
    go_ret
    exact ⟨rfl, hb5⟩
  · have hl : s.size ≤ 4000 := by omega
    have hP : parseE s.data.toList = 0 ∨ (parseE s.data.toList == 0) = false := by
      by_cases h : parseE s.data.toList = 0
      · exact .inl h
      · exact .inr (beq_eq_false_iff_ne.2 h)
    have hM : milliE s.data.toList = 0 ∨ (milliE s.data.toList == 0) = false := by
      by_cases h : milliE s.data.toList = 0
      · exact .inl h
      · exact .inr (beq_eq_false_iff_ne.2 h)
    rcases hP with hP | hP <;> rcases hM with hM | hM
    · by_cases c0 : n < 0
      · by_cases c1 : n < -9007199254740992
        · exact BackD11 n s w h1 h2 hl c1 hP hM
        · exact BackB11 n s w h1 h2 hl c0 (by omega) hP hM
      · by_cases c1 : 9007199254740992 < n
        · exact BackC11 n s w h1 h2 hl c1 hP hM
        · exact BackA11 n s w h1 h2 hl (by omega) (by omega) hP hM
    · by_cases c0 : n < 0
      · by_cases c1 : n < -9007199254740992
        · exact BackD10 n s w h1 h2 hl c1 hP hM
        · exact BackB10 n s w h1 h2 hl c0 (by omega) hP hM
      · by_cases c1 : 9007199254740992 < n
        · exact BackC10 n s w h1 h2 hl c1 hP hM
        · exact BackA10 n s w h1 h2 hl (by omega) (by omega) hP hM
    · by_cases c0 : n < 0
      · by_cases c1 : n < -9007199254740992
        · exact BackD01 n s w h1 h2 hl c1 hP hM
        · exact BackB01 n s w h1 h2 hl c0 (by omega) hP hM
      · by_cases c1 : 9007199254740992 < n
        · exact BackC01 n s w h1 h2 hl c1 hP hM
        · exact BackA01 n s w h1 h2 hl (by omega) (by omega) hP hM
    · by_cases c0 : n < 0
      · by_cases c1 : n < -9007199254740992
        · exact BackD00 n s w h1 h2 hl c1 hP hM
        · exact BackB00 n s w h1 h2 hl c0 (by omega) hP hM
      · by_cases c1 : 9007199254740992 < n
        · exact BackC00 n s w h1 h2 hl c1 hP hM
        · exact BackA00 n s w h1 h2 hl (by omega) (by omega) hP hM
end Go.Proofs.Ytioplkdmkdhnfaa
