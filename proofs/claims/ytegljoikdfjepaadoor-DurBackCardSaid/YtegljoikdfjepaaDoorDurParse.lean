/- The contract of dur.Parse. -/
import Derived.Test.YtegljoikdfjepaaDoorDurGroup
namespace Go.Proofs.YtegljoikdfjepaaDoor
open Go.RowKit
open Dg
set_option linter.unusedVariables false
theorem group_q (s q : ByteArray) (a b : Nat) (w : World) (hs : s.size ≤ maxLen) (ha : gL s.data.toList = a) (hb : gS s.data.toList = b) (hq : gR s.data.toList = q.data.toList) :
    Calls Tryd.prog 18 #[.string s] w fun e w' => e = .returned (.tuple #[.int .i64 (a : Int), .int .i64 (b : Int), .string q]) ∧ Below w.heap.size w w' :=
  (group_any s w hs).mono fun e w' ⟨h1, h2⟩ => ⟨by rw [h1, ha, hb, mk_of hq], h2⟩
theorem zero_q (s : ByteArray) (b : Bool) (w : World) (hs : s.size ≤ maxLen) (h : decide (zeroF s.data.toList) = b) :
    Calls Tryd.prog 17 #[.string s] w fun e w' => e = .returned (.bool b) ∧ Below w.heap.size w w' :=
  (isZero_any s w hs).mono fun e w' ⟨h1, h2⟩ => ⟨by rw [h1, h], h2⟩
/-- A sum and the true one: equal, or both greater than every duration. -/
def near (sum acc : Nat) : Prop := sum = acc ∨ 1099511627776 < sum ∧ 1099511627776 < acc
theorem near_add {sum acc a t : Nat} (h : near sum acc) (g : a = t ∨ a = 1099511627777 ∧ 1099511627776 < t) : near (sum + a) (acc + t) := by
  unfold near at *
  omega

set_option maxHeartbeats 2000000 in
theorem DParse_any (s : ByteArray) (w : World) (hs : s.size ≤ maxLen) :
    Calls Tryd.prog 7 #[.string s] w fun e w' => e = .returned (.tuple #[.int .i64 (durN s.data.toList), .int .i64 (durE s.data.toList)]) ∧ Below w.heap.size w w' := by
  by_cases h0 : s.data.toList = []
  · obtain rfl : s = ⟨#[]⟩ := by
      cases s; rename_i a; cases a; simp at h0; simp [h0]
    clear h0
    go_enter Tryd.func7, Tryd.ntmps7
    go_wp2
    go_ret2
    exact ⟨ret_ii dur_nil.1.symm dur_nil.2.symm, Below.refl _ _⟩
  · have b1 : s.toList.isEmpty = false := by rw [ByteArray.toList_eq, List.isEmpty_eq_false_iff]; exact h0
    have b2 : ¬ s.toList = [] := by rw [ByteArray.toList_eq]; exact h0
    by_cases hz : zeroF s.data.toList
    · have HD : Hid (durN s.data.toList = 0 ∧ durE s.data.toList = 0) := Lib.hid (by unfold durN durE; rw [durP_zero hz]; exact ⟨rfl, rfl⟩)
      have HZ := Lib.hid (decide_eq_true hz)
      clear h0 hz
      go_enter Tryd.func7, Tryd.ntmps7
      go_wp2_with (go_at_call 17; refine (zero_q _ true _ hs HZ.out).mono ?_; rintro e w' ⟨rfl, hb⟩)
      go_ret2
      exact ⟨ret_ii HD.out.1.symm HD.out.2.symm, hb⟩
    · obtain ⟨R, hR⟩ : ∃ R, run 3600001 0 s.data.toList = R := ⟨_, rfl⟩
      have HD : Hid (durN s.data.toList = finN R ∧ durE s.data.toList = finE R) := Lib.hid (by unfold durN durE durP; rw [if_neg h0, hR]; exact ⟨rfl, rfl⟩)
      have HZ := Lib.hid (decide_eq_false hz)
      have HI := Lib.hid hz
      have HR := Lib.hid hR
      clear h0 hz hR
      go_enter Tryd.func7, Tryd.ntmps7
      go_wp2_with (go_at_call 17; refine (zero_q _ false _ hs HZ.out).mono ?_; rintro e w0 ⟨rfl, hb0⟩)
      go_loopw [0, 4, 5] (fun ss su sa w' => ∃ t : ByteArray, ∃ above acc sum : Nat, ss = .string t ∧ su = .int .i64 (sum : Int) ∧ sa = .int .i64 (above : Int) ∧ t.size ≤ maxLen ∧ above ≤ 3600001 ∧ sum ≤ (3600001 - above) * 1099511627777 ∧ run above acc t.data.toList = R ∧ near sum acc ∧ (above = 3600001 → ¬ zeroF t.data.toList) ∧ Below w.heap.size w w') (fun ss _ _ _ => strSize ss)
      case atStart => exact ⟨s, 3600001, 0, 0, rfl, rfl, rfl, hs, by omega, by omega, HR.out, .inl rfl, fun _ => HI.out, hb0⟩
      case round =>
        obtain ⟨t, above, acc, sum, rfl, rfl, rfl, hts, hab, hsum, hrun, hnear, hzz, hbb⟩ := hrel
        have HRun := Lib.hid hrun
        have HNear := Lib.hid hnear
        have HZz := Lib.hid hzz
        clear hrun hnear hzz
        by_cases ht : t.data.toList = []
        · obtain rfl : t = ⟨#[]⟩ := bytes_ext (by rw [ht])
          have hRe : R = some acc := by rw [← HRun.out]; exact run_nil _ _
          clear ht
          by_cases hbig : 1099511627776 < sum
          · have hF := Lib.hid (fin_big (t := acc) (by have := HNear.out; unfold near at this; omega))
            have hbig' : (1099511627776 : Int) < (sum : Int) := by omega
            subst hRe
            go_wp2
            go_ret2
            exact ⟨ret_ii (by rw [HD.out.1, hF.out.1]) (by rw [HD.out.2, hF.out.2]), hbb⟩
          · have hF := Lib.hid (fin_ok (t := acc) (by have := HNear.out; unfold near at this; omega))
            have hEq : Hid (sum = acc) := Lib.hid (by have := HNear.out; unfold near at this; omega)
            have hbig' : ¬ (1099511627776 : Int) < (sum : Int) := by omega
            subst hRe
            go_wp2
            go_ret2
            exact ⟨ret_ii (by rw [HD.out.1, hF.out.1, hEq.out]) (by rw [HD.out.2, hF.out.2]), hbb⟩
        · have c1 : t.toList.isEmpty = false := by rw [ByteArray.toList_eq, List.isEmpty_eq_false_iff]; exact ht
          have c2 : ¬ t.toList = [] := by rw [ByteArray.toList_eq]; exact ht
          obtain ⟨q, hq⟩ : ∃ q : ByteArray, gR t.data.toList = q.data.toList := ⟨⟨(gR t.data.toList).toArray⟩, by simp⟩
          obtain ⟨a, ha⟩ : ∃ a : Nat, gL t.data.toList = a := ⟨_, rfl⟩
          obtain ⟨b, hb⟩ : ∃ b : Nat, gS t.data.toList = b := ⟨_, rfl⟩
          have HA := Lib.hid ha
          have HB := Lib.hid hb
          have HQ := Lib.hid hq
          have HT := Lib.hid ht
          clear ha hb hq ht
          by_cases hb0 : b = 0
          · have hN : R = none := by rw [← HRun.out]; exact round_no HT.out HZz.out hab (.inl (HB.out.trans hb0))
            subst hN
            subst hb0
            go_wp2_with (go_at_call 18; refine (group_q _ q a 0 _ hts HA.out HB.out HQ.out).mono ?_; rintro e w1 ⟨rfl, hb1⟩)
            go_ret2
            exact ⟨ret_ii (by rw [HD.out.1]; rfl) (by rw [HD.out.2]; rfl), hbb.trans (hb1.mono hbb.size)⟩
          · have d1 : ((b : Int) == 0) = false := beq_eq_false_iff_ne.2 (by omega)
            by_cases hba : above ≤ b
            · have hN : R = none := by rw [← HRun.out]; exact round_no HT.out HZz.out hab (.inr (by rw [HB.out]; exact hba))
              subst hN
              have d2 : (above : Int) ≤ (b : Int) := by omega
              go_wp2_with (go_at_call 18; refine (group_q _ q a b _ hts HA.out HB.out HQ.out).mono ?_; rintro e w1 ⟨rfl, hb1⟩)
              go_ret2
              exact ⟨ret_ii (by rw [HD.out.1]; rfl) (by rw [HD.out.2]; rfl), hbb.trans (hb1.mono hbb.size)⟩
            · have d2 : ¬ (above : Int) ≤ (b : Int) := by omega
              have hgo := Lib.hid (round_go (acc := acc) HT.out HZz.out hab (by rw [HB.out]; exact hb0) (by rw [HB.out]; omega))
              have hlt := Lib.hid (gR_lt (l := t.data.toList) (by rw [HB.out]; exact hb0))
              have hnr := Lib.hid (gL_near (gOK_of_gS (l := t.data.toList) (by rw [HB.out]; exact hb0)))
              have ha1 : (a : Int) ≤ 1099511627777 := by have := hnr.out.1; rw [HA.out] at this; omega
              have hsum' : (sum : Int) + 1099511627777 ≤ 3959000000000000000 := by omega
              have hbd : b ≤ 3600000 := by rw [← HB.out]; exact gS_bd _
              go_wp2_with (go_at_call 18; refine (group_q _ q a b _ hts HA.out HB.out HQ.out).mono ?_; rintro e w1 ⟨rfl, hb1⟩)
              go_roundw
              case rel =>
                refine ⟨q, b, acc + val (hdD t.data.toList) * uS (tlD t.data.toList), sum + a, rfl, by go_num, rfl, ?_, by omega, ?_, ?_, ?_, fun h => absurd h (by omega), hbb.trans (hb1.mono hbb.size)⟩
                · have := hlt.out
                  rw [HQ.out, len_eq, len_eq] at this
                  omega
                · omega
                · rw [← HRun.out, hgo.out, HB.out, HQ.out]
                · refine near_add HNear.out ?_
                  have := hnr.out.2
                  rw [HA.out] at this
                  exact this
              case measure =>
                show q.size < t.size
                have := hlt.out
                rw [HQ.out, len_eq, len_eq] at this
                exact this
end Go.Proofs.YtegljoikdfjepaaDoor
