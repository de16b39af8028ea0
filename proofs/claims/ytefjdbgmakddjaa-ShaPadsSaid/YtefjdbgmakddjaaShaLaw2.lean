/- ShaPads: Pad returns what the document's own answer returns; it begins with the text, and comes to whole blocks, as few as may be. -/
import Derived.Test.YtefjdbgmakddjaaRefPad
import Derived.Test.YtefjdbgmakddjaaRefHex
import Derived.Test.YtefjdbgmakddjaaShaAwake
namespace Go.Proofs.Ytefjdbgmakddjaa
open Go.RowKit
open Sh
set_option linter.unusedVariables false
theorem Pad_q (s q : ByteArray) (w : World) (hs : s.size ≤ 4000) (hq : padL s.data.toList = q.data.toList) :
    Calls Try.prog 13 #[.string s] w fun e w' => e = .returned (.string q) ∧ Below w.heap.size w w' :=
  (Pad_any s w hs).mono fun e w' ⟨h1, h2⟩ => ⟨by rw [h1, hq], h2⟩
theorem RPad_q (s q : ByteArray) (w : World) (hs : s.size ≤ 4000) (hq : padL s.data.toList = q.data.toList) :
    Calls Try.prog 14 #[.string s] w fun e w' => e = .returned (.string q) ∧ Below w.heap.size w w' :=
  (RPad_any s w hs).mono fun e w' ⟨h1, h2⟩ => ⟨by rw [h1, hq], h2⟩
theorem RHex_q (s q : ByteArray) (w : World) (hs : s.size ≤ 4000) (hq : hexL s.data.toList = q.data.toList) :
    Calls Try.prog 16 #[.string s] w fun e w' => e = .returned (.string q) ∧ Below w.heap.size w w' :=
  (RHex_any s w hs).mono fun e w' ⟨h1, h2⟩ => ⟨by rw [h1, hq], h2⟩
theorem pad_head {s q : ByteArray} (hq : padL s.data.toList = q.data.toList) : q.extract 0 s.size = s := by
  apply bytes_ext
  rw [ByteArray.data_extract]
  rw [Array.toList_extract]
  show (q.data.toList.drop 0).take _ = _
  rw [← hq]
  unfold padL
  rw [List.drop_zero, List.append_assoc, List.append_assoc]
  have : s.size - 0 = s.data.toList.length := rfl
  rw [this, List.take_left]
set_option maxHeartbeats 2000000 in
theorem ShaPads_walk (s : ByteArray) (hm : s.size ≤ maxLen) (w : World) :
    Calls Try.prog 4 #[.string s] w fun e w' => e = .returned (.bool true) ∧ Below w.heap.size w w' := by
  by_cases hbig : 2000 < s.size
  · have hb : (2000 : Int) < (s.size : Int) := by omega
    go_enter Try.func4, Try.ntmps4
    go_wp2_with fail
    refine (awake_any _).mono ?_
    rintro e w5 ⟨rfl, hb5⟩
    go_wp2
    go_ret
    exact ⟨rfl, hb5⟩
  · obtain ⟨q, hq⟩ : ∃ q : ByteArray, padL s.data.toList = q.data.toList := ⟨⟨(padL s.data.toList).toArray⟩, by simp⟩
    obtain ⟨x, hx⟩ : ∃ x : ByteArray, hexL s.data.toList = x.data.toList := ⟨⟨(hexL s.data.toList).toArray⟩, by simp⟩
    have hext := pad_head hq
    obtain ⟨n, hn⟩ : ∃ n, s.size = n := ⟨_, rfl⟩
    obtain ⟨N, hN⟩ : ∃ N, q.size = N := ⟨_, rfl⟩
    have hl : s.data.toList.length = n := by rw [← hn]; rfl
    have hNl : N = n + 1 + padZ n + 8 := by
      have h := congrArg List.length hq
      rw [padL_len, hl] at h
      rw [← hN]; exact h.symm
    have hz : padZ n < 64 := Nat.mod_lt _ (by decide)
    have hmod : N % 64 = 0 := by rw [hNl]; unfold padZ; omega
    have hb : ¬ (2000 : Int) < (n : Int) := by omega
    have f1 : (N : Int).tmod 64 = 0 := by rw [Int.tmod_eq_emod_of_nonneg (by omega)]; omega
    have f2 : (N : Int) % 64 = 0 := by omega
    have f3 : (n : Int) + 9 ≤ (N : Int) := by omega
    have f4 : (N : Int) < (n : Int) + 73 := by omega
    have f5 : n ≤ N := by omega
    have f6 : N ≤ 4000 := by omega
    have f7 : (n : Int) ≤ (N : Int) := by omega
    rw [hn] at hext
    have HQ := Lib.hid hq
    have HX := Lib.hid hx
    have HS : Hid (s.size ≤ 4000) := Lib.hid (by omega)
    clear hq hx hNl hz hmod hl hbig hm
    go_enter Try.func4, Try.ntmps4
    go_wp2_with fail
    refine (Pad_q s q _ HS.out HQ.out).mono ?_
    rintro e w1 ⟨rfl, hb1⟩
    go_wp2_with fail
    refine (RPad_q s q _ HS.out HQ.out).mono ?_
    rintro e w2 ⟨rfl, hb2⟩
    have b2 := below_next hb1 hb2
    clear hb1 hb2
    go_wp2_with fail
    refine (Hex_q s x _ HS.out HX.out).mono ?_
    rintro e w3 ⟨rfl, hb3⟩
    have b3 := below_next b2 hb3
    clear b2 hb3
    go_wp2_with fail
    refine (RHex_q s x _ HS.out HX.out).mono ?_
    rintro e w4 ⟨rfl, hb4⟩
    have b4 := below_next b3 hb4
    clear b3 hb4
    go_wp2_with fail
    refine (awake_any _).mono ?_
    rintro e w5 ⟨rfl, hb5⟩
    have b5 := below_next b4 hb5
    clear b4 hb5
    go_wp2
    go_ret
    exact ⟨rfl, b5⟩
end Go.Proofs.Ytefjdbgmakddjaa
