/- The contract of every, at whatever closure that only tells. -/
import Derived.Test.YtjhojedicehcfaaDoorQuoByte
namespace Go.Proofs.YtjhojedicehcfaaDoor
open Go.RowKit
open Q6
set_option linter.unusedVariables false
/-- A function value that tells a byte between its neighbours, and turns nothing. -/
def Tells3 (g : Nat) (F : UInt8 → UInt8 → UInt8 → Bool) : Prop :=
  (∀ args w, (callFunc g args).run Tryd.prog w = .ok (.enter g args) w) ∧
  ∀ (b c a : UInt8) (w : World), Calls Tryd.prog g #[.int .u8 b.toNat, .int .u8 c.toNat, .int .u8 a.toNat] w fun e w' => e = .returned (.bool (F b c a)) ∧ w = w'
theorem getd (s : ByteArray) (k : Nat) (h : k < s.size) : s.data.toList.getD k 0 = s[k] := by
  rw [List.getD_eq_getElem?_getD, List.getElem?_eq_getElem (by rw [len_eq]; exact h)]; rfl
theorem bef_zero (l : List UInt8) : bef l 0 = 10 := rfl
theorem bef_succ (l : List UInt8) (k : Nat) : bef l (k + 1) = l.getD k 0 := by unfold bef; rw [if_neg (by omega)]; rfl
theorem aft_in {l : List UInt8} {k : Nat} (h : k + 1 < l.length) : aft l k = l.getD (k + 1) 0 := by unfold aft; rw [if_pos h]
theorem aft_out {l : List UInt8} {k : Nat} (h : ¬ k + 1 < l.length) : aft l k = 10 := by unfold aft; rw [if_neg h]
set_option maxHeartbeats 1600000 in
theorem every_any (s : ByteArray) (g : Nat) (F : UInt8 → UInt8 → UInt8 → Bool) (w : World) (hs : s.size ≤ maxLen) (T : Tells3 g F) :
    Calls Tryd.prog 52 #[.string s, .func (.func g) #[] #[]] w fun e w' => e = .returned (.bool (everyB F s.data.toList)) ∧ w = w' := by
  unfold maxLen at hs
  obtain ⟨e1, t1⟩ := T
  have T1 : Hid (∀ (b c a : UInt8) (w : World), Calls Tryd.prog g #[.int .u8 b.toNat, .int .u8 c.toNat, .int .u8 a.toNat] w fun e w' => e = .returned (.bool (F b c a)) ∧ w = w') := Lib.hid t1
  clear t1
  have hlen : s.data.toList.length = s.size := len_eq s
  have HL := Lib.hid hlen
  clear hlen
  go_enter Tryd.func52, Tryd.ntmps52
  go_wp2
  go_loop [5, 10] (fun b i => ∃ k : Nat, k ≤ s.size ∧ i = .int .i64 k ∧ b = .int .u8 ((bef s.data.toList k).toNat : Int) ∧ ∀ j, j < k → okI F s.data.toList j = true) (fun _ i => s.size - (intOf i).toNat)
  case atStart => exact ⟨0, Nat.zero_le _, rfl, rfl, fun j h => absurd h (Nat.not_lt_zero _)⟩
  case round =>
    obtain ⟨k, hk, rfl, rfl, hall⟩ := hrel
    have HA := Lib.hid hall; clear hall
    by_cases hlt : k < s.size
    · have HX := Lib.hid (getd s k hlt)
      have HBS := Lib.hid (bef_succ s.data.toList k)
      have HO : Hid (okI F s.data.toList k = F (bef s.data.toList k) (s.data.toList.getD k 0) (aft s.data.toList k)) := Lib.hid rfl
      by_cases hnx : k + 1 < s.size
      · have HY := Lib.hid ((aft_in (l := s.data.toList) (k := k) (by rw [HL.out]; exact hnx)).trans (getd s (k + 1) hnx))
        have hcall := T1.out (bef s.data.toList k) s[k] s[k + 1]
        have hnxz : (k : Int) + 1 < (s.size : Int) := by omega
        have hF : F (bef s.data.toList k) s[k] s[k + 1] = okI F s.data.toList k := by rw [HO.out, HX.out, HY.out]
        rw [hF] at hcall
        clear hF
        generalize bef s.data.toList k = bb at *
        rcases Bool.eq_false_or_eq_true (okI F s.data.toList k) with h3 | h3
        · rw [h3] at hcall
          have HB := Lib.hid h3; clear h3
          go_wp2_with (go_at_fn g; refine (hcall _).mono ?_; rintro e w' ⟨rfl, rfl⟩)
          go_round
          case rel =>
            refine ⟨k + 1, by omega, by go_num, by rw [HBS.out, HX.out], fun j hj => ?_⟩
            rcases Nat.lt_succ_iff_lt_or_eq.1 hj with h | rfl
            · exact HA.out j h
            · exact HB.out
          case measure => simp [intOf]; omega
        · rw [h3] at hcall
          have HB := Lib.hid h3; clear h3
          go_wp2_with (go_at_fn g; refine (hcall _).mono ?_; rintro e w' ⟨rfl, rfl⟩)
          go_ret
          exact ⟨ret_b (every_no (i := k) (by rw [HL.out]; exact hlt) HB.out).symm, rfl⟩
      · have HY := Lib.hid (aft_out (l := s.data.toList) (k := k) (by rw [HL.out]; exact hnx))
        have hcall := T1.out (bef s.data.toList k) s[k] 10
        have h10 : ((10 : UInt8).toNat : Int) = 10 := rfl
        rw [h10] at hcall
        clear h10
        have hnxz : ¬ (k : Int) + 1 < (s.size : Int) := by omega
        have hF : F (bef s.data.toList k) s[k] 10 = okI F s.data.toList k := by rw [HO.out, HX.out, HY.out]
        rw [hF] at hcall
        clear hF
        generalize bef s.data.toList k = bb at *
        rcases Bool.eq_false_or_eq_true (okI F s.data.toList k) with h3 | h3
        · rw [h3] at hcall
          have HB := Lib.hid h3; clear h3
          go_wp2_with (go_at_fn g; refine (hcall _).mono ?_; rintro e w' ⟨rfl, rfl⟩)
          go_round
          case rel =>
            refine ⟨k + 1, by omega, by go_num, by rw [HBS.out, HX.out], fun j hj => ?_⟩
            rcases Nat.lt_succ_iff_lt_or_eq.1 hj with h | rfl
            · exact HA.out j h
            · exact HB.out
          case measure => simp [intOf]; omega
        · rw [h3] at hcall
          have HB := Lib.hid h3; clear h3
          go_wp2_with (go_at_fn g; refine (hcall _).mono ?_; rintro e w' ⟨rfl, rfl⟩)
          go_ret
          exact ⟨ret_b (every_no (i := k) (by rw [HL.out]; exact hlt) HB.out).symm, rfl⟩
    · go_wp2
      go_ret
      obtain rfl : k = s.size := by omega
      exact ⟨ret_b (every_yes (fun i hi => HA.out i (by rw [HL.out] at hi; exact hi))).symm, rfl⟩
end Go.Proofs.YtjhojedicehcfaaDoor
