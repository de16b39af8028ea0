/- ShaSums: Sum returns what the document's own answer returns, 32 bytes; Print returns the document's own digits of it, 64 of them. -/
import Derived.Test.YtefjdbgmakddjaaRefSum
import Derived.Test.YtefjdbgmakddjaaShaAwake
namespace Go.Proofs.Ytefjdbgmakddjaa
open Go.RowKit
open Sh
set_option linter.unusedVariables false
theorem Sum_q (s q : ByteArray) (w : World) (hs : s.size ≤ 3000) (hq : sumL s.data.toList = q.data.toList) :
    Calls Try.prog 19 #[.string s] w fun e w' => e = .returned (.string q) ∧ Below w.heap.size w w' :=
  (Sum_any s w hs).mono fun e w' ⟨h1, h2⟩ => ⟨by rw [h1, hq], h2⟩
theorem RSum_q (s q : ByteArray) (w : World) (hs : s.size ≤ 3000) (hq : sumL s.data.toList = q.data.toList) :
    Calls Try.prog 20 #[.string s] w fun e w' => e = .returned (.string q) ∧ Below w.heap.size w w' :=
  (RSum_any s w hs).mono fun e w' ⟨h1, h2⟩ => ⟨by rw [h1, hq], h2⟩
theorem Print_q (s x : ByteArray) (w : World) (hs : s.size ≤ 3000) (hx : hexL (sumL s.data.toList) = x.data.toList) :
    Calls Try.prog 21 #[.string s] w fun e w' => e = .returned (.string x) ∧ Below w.heap.size w w' :=
  (Print_any s w hs).mono fun e w' ⟨h1, h2⟩ => ⟨by rw [h1, hx], h2⟩
theorem RHex_qs (s q : ByteArray) (w : World) (hs : s.size ≤ 4000) (hq : hexL s.data.toList = q.data.toList) :
    Calls Try.prog 16 #[.string s] w fun e w' => e = .returned (.string q) ∧ Below w.heap.size w w' :=
  (RHex_any s w hs).mono fun e w' ⟨h1, h2⟩ => ⟨by rw [h1, hq], h2⟩
set_option maxHeartbeats 2000000 in
theorem ShaSums_walk (s : ByteArray) (hm : s.size ≤ maxLen) (w : World) :
    Calls Try.prog 6 #[.string s] w fun e w' => e = .returned (.bool true) ∧ Below w.heap.size w w' := by
  by_cases hbig : 300 < s.size
  · have hb : (300 : Int) < (s.size : Int) := by omega
    go_enter Try.func6, Try.ntmps6
    go_wp2_with fail
    refine (awake_any _).mono ?_
    rintro e w5 ⟨rfl, hb5⟩
    go_wp2
    go_ret
    exact ⟨rfl, hb5⟩
  · obtain ⟨q, hq⟩ : ∃ q : ByteArray, sumL s.data.toList = q.data.toList := ⟨⟨(sumL s.data.toList).toArray⟩, by simp⟩
    obtain ⟨x, hx⟩ : ∃ x : ByteArray, hexL q.data.toList = x.data.toList := ⟨⟨(hexL q.data.toList).toArray⟩, by simp⟩
    have hq32 : q.size = 32 := by have h := sumL_len s.data.toList; rw [hq] at h; exact h
    have hx64 : x.size = 64 := by
      have h := hexL_len q.data.toList
      rw [hx] at h
      have h2 : q.data.toList.length = q.size := rfl
      have h3 : x.data.toList.length = x.size := rfl
      omega
    have hb : ¬ (300 : Int) < (s.size : Int) := by omega
    have HQ := Lib.hid hq
    have HX := Lib.hid hx
    have HPX : Hid (hexL (sumL s.data.toList) = x.data.toList) := Lib.hid (by rw [hq]; exact hx)
    have HS : Hid (s.size ≤ 3000) := Lib.hid (by omega)
    have HQ4 : Hid (q.size ≤ 4000) := Lib.hid (by omega)
    clear hq hx hbig hm
    go_enter Try.func6, Try.ntmps6
    go_wp2_with fail
    refine (Sum_q s q _ HS.out HQ.out).mono ?_
    rintro e w1 ⟨rfl, hb1⟩
    go_wp2_with fail
    refine (RSum_q s q _ HS.out HQ.out).mono ?_
    rintro e w2 ⟨rfl, hb2⟩
    have b2 := below_next hb1 hb2
    clear hb1 hb2
    go_wp2_with fail
    refine (Print_q s x _ HS.out HPX.out).mono ?_
    rintro e w3 ⟨rfl, hb3⟩
    have b3 := below_next b2 hb3
    clear b2 hb3
    go_wp2_with fail
    refine (RHex_qs q x _ HQ4.out HX.out).mono ?_
    rintro e w4 ⟨rfl, hb4⟩
    have b4 := below_next b3 hb4
    clear b3 hb4
    go_wp2_with fail
    refine (Print_q s x _ HS.out HPX.out).mono ?_
    rintro e w6 ⟨rfl, hb6⟩
    have b6 := below_next b4 hb6
    clear b4 hb6
    go_wp2_with fail
    refine (awake_any _).mono ?_
    rintro e w5 ⟨rfl, hb5⟩
    have b5 := below_next b6 hb5
    clear b6 hb5
    go_wp2
    go_ret
    exact ⟨rfl, b5⟩
end Go.Proofs.Ytefjdbgmakddjaa
