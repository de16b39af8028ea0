/- QuoByte, QuoEvery -/
import Derived.BigQuiet
import Derived.Deep.QuietTactic
import Derived.Lib.Hide
import Derived.ProofKit
import Derived.Shelf.Small.Strs
import Derived.Shelf.Strings.Prefix
import Derived.Test.YtgdejjkiiaodkaaGreatDoorGT10
import Derived.Test.YtgdejjkiiaodkaaGreatDoorGT14
import Derived.Test.YtgdejjkiiaodkaaGreatDoorGT3
import Derived.Test.YtgdejjkiiaodkaaGreatDoorRows
import Derived.WalkKit
set_option linter.unusedVariables false
set_option linter.unusedSimpArgs false
set_option maxRecDepth 100000
set_option maxHeartbeats 16000000
open Go.Lib (hid)
namespace Go.Proofs.YtgdejjkiiaodkaaGreatDoor
section
open Go.RowKit
open Q6
theorem ret_b {a b : Bool} (h : a = b) : Ending.returned (.bool a) = .returned (.bool b) := by rw [h]
theorem ret_s {a b : ByteArray} (h : a = b) : Ending.returned (.string a) = .returned (.string b) := by rw [h]
theorem isC_beq (k c : UInt8) (x : Int) (h : (k.toNat : Int) = x) : ((c.toNat : Int) == x) = isC k c := by
 subst h
 unfold isC
 rw [Bool.eq_iff_iff]
 simp only [beq_iff_eq, decide_eq_true_eq]
 constructor
 ·intro h; apply UInt8.toNat_inj.1; omega
 ·intro h; rw [h]
theorem isC_bne (k c : UInt8) (x : Int) (h : (k.toNat : Int) = x) : ((c.toNat : Int) != x) = !isC k c := by
 show (!((c.toNat : Int) == x)) = _
 rw [isC_beq k c x h]
theorem isC_ne {k j c : UInt8} (h : isC k c = true) (hkj : k ≠ j) : isC j c = false := by
 rw [Bool.eq_false_iff]; intro e
 exact hkj ((isC_iff.1 h).symm.trans (isC_iff.1 e))
theorem printable_any (c : UInt8) (w : World) : Calls Tryz.prog 68 #[.int .u8 c.toNat] w fun e w' => e = .returned (.bool (good c)) ∧ w = w' := by
 by_cases h1 : (32 : Int) ≤ (c.toNat : Int)
 ·rcases Bool.eq_false_or_eq_true (isC 127 c) with h2 | h2
  all_goals
   have H : Hid (good c = !isC 127 c) := hid (by
    unfold good isC
    rw [decide_eq_true (by omega : 32 ≤ c.toNat), Bool.true_and, ← decide_not, decide_eq_decide]
    exact ⟨fun e e2 => e (by rw [e2]; rfl), fun e e2 => e (UInt8.toNat_inj.1 e2)⟩)
   have m := isC_bne 127 c 127 rfl
   rw [h2] at m H
   go_enter Tryz.func68, Tryz.ntmps68
   go_wp2
   all_goals (go_ret; exact ⟨ret_b H.out.symm, rfl⟩)
 ·have H : Hid (good c = false) := hid (by unfold good; rw [decide_eq_false (by omega : ¬ 32 ≤ c.toNat)]; rfl)
  go_enter Tryz.func68, Tryz.ntmps68
  go_wp2
  go_ret
  exact ⟨ret_b H.out.symm, rfl⟩
theorem single1_any (b c a : UInt8) (w : World) : Calls Tryz.prog 129 #[.int .u8 b.toNat, .int .u8 c.toNat, .int .u8 a.toNat] w fun e w' => e = .returned (.bool (goodF b c a)) ∧ w = w' := by
 have H : Hid (goodF b c a = good c) := hid rfl
 go_enter Tryz.func129, Tryz.ntmps129
 go_wp2_with (go_at_call 68; refine (printable_any _ _).mono ?_; rintro e w' ⟨rfl, rfl⟩)
 go_ret
 exact ⟨ret_b H.out.symm, rfl⟩
end
section
open Go.RowKit
open Q6
def Tells3 (g : Nat) (F : UInt8 → UInt8 → UInt8 → Bool) : Prop :=
 (∀ args w, (callFunc g args).run Tryz.prog w = .ok (.enter g args) w) ∧
 ∀ (b c a : UInt8) (w : World), Calls Tryz.prog g #[.int .u8 b.toNat, .int .u8 c.toNat, .int .u8 a.toNat] w fun e w' => e = .returned (.bool (F b c a)) ∧ w = w'
theorem bef_succ (l : List UInt8) (k : Nat) : bef l (k + 1) = l.getD k 0 := by unfold bef; rw [if_neg (by omega)]; rfl
theorem aft_in {l : List UInt8} {k : Nat} (h : k + 1 < l.length) : aft l k = l.getD (k + 1) 0 := by unfold aft; rw [if_pos h]
theorem aft_out {l : List UInt8} {k : Nat} (h : ¬ k + 1 < l.length) : aft l k = 10 := by unfold aft; rw [if_neg h]
theorem every_any (s : ByteArray) (g : Nat) (F : UInt8 → UInt8 → UInt8 → Bool) (w : World) (hs : s.size ≤ maxLen) (T : Tells3 g F) :
  Calls Tryz.prog 128 #[.string s, .func (.func g) #[] #[]] w fun e w' => e = .returned (.bool (everyB F s.data.toList)) ∧ w = w' := by
 unfold maxLen at hs
 obtain ⟨e1, t1⟩ := T
 have T1 : Hid (∀ (b c a : UInt8) (w : World), Calls Tryz.prog g #[.int .u8 b.toNat, .int .u8 c.toNat, .int .u8 a.toNat] w fun e w' => e = .returned (.bool (F b c a)) ∧ w = w') := hid t1
 clear t1
 have hlen : s.data.toList.length = s.size := len_eq s
 have HL := hid hlen
 clear hlen
 go_enter Tryz.func128, Tryz.ntmps128
 go_wp2
 go_loop [5, 10] (fun b i => ∃ k : Nat, k ≤ s.size ∧ i = .int .i64 k ∧ b = .int .u8 ((bef s.data.toList k).toNat : Int) ∧ ∀ j, j < k → okI F s.data.toList j = true) (fun _ i => s.size - (intOf i).toNat)
 case atStart => exact ⟨0, Nat.zero_le _, rfl, rfl, fun j h => absurd h (Nat.not_lt_zero _)⟩
 case round =>
  obtain ⟨k, hk, rfl, rfl, hall⟩ := hrel
  have HA := hid hall; clear hall
  by_cases hlt : k < s.size
  ·have HX := hid (getd s k hlt)
   have HBS := hid (bef_succ s.data.toList k)
   have HO : Hid (okI F s.data.toList k = F (bef s.data.toList k) (s.data.toList.getD k 0) (aft s.data.toList k)) := hid rfl
   by_cases hnx : k + 1 < s.size
   ·have HY := hid ((aft_in (l := s.data.toList) (k := k) (by rw [HL.out]; exact hnx)).trans (getd s (k + 1) hnx))
    have hcall := T1.out (bef s.data.toList k) s[k] s[k + 1]
    have hnxz : (k : Int) + 1 < (s.size : Int) := by omega
    have hF : F (bef s.data.toList k) s[k] s[k + 1] = okI F s.data.toList k := by rw [HO.out, HX.out, HY.out]
    rw [hF] at hcall
    clear hF
    generalize bef s.data.toList k = bb at *
    rcases Bool.eq_false_or_eq_true (okI F s.data.toList k) with h3 | h3
    ·rw [h3] at hcall
     have HB := hid h3; clear h3
     go_wp2_with (go_at_fn g; refine (hcall _).mono ?_; rintro e w' ⟨rfl, rfl⟩)
     go_round
     case rel =>
      refine ⟨k + 1, by omega, by go_num, by rw [HBS.out, HX.out], fun j hj => ?_⟩
      rcases Nat.lt_succ_iff_lt_or_eq.1 hj with h | rfl
      ·exact HA.out j h
      ·exact HB.out
     case measure => simp [intOf]; omega
    ·rw [h3] at hcall
     have HB := hid h3; clear h3
     go_wp2_with (go_at_fn g; refine (hcall _).mono ?_; rintro e w' ⟨rfl, rfl⟩)
     go_ret
     exact ⟨ret_b (every_no (i := k) (by rw [HL.out]; exact hlt) HB.out).symm, rfl⟩
   ·have HY := hid (aft_out (l := s.data.toList) (k := k) (by rw [HL.out]; exact hnx))
    have hcall := T1.out (bef s.data.toList k) s[k] 10
    have h10 : ((10 : UInt8).toNat : Int) = 10 := rfl
    rw [h10] at hcall
    clear h10
    have hnxz : ¬ (k : Int) + 1 < (s.size : Int) := by omega
    have hF : F (bef s.data.toList k) s[k] 10 = okI F s.data.toList k := by rw [HO.out, HX.out, HY.out]
    rw [hF] at hcall
    clear hF
    generalize bef s.data.toList k = bb at *
    rcases Bool.eq_false_or_eq_true (okI F s.data.toList k) with h3 | h3
    ·rw [h3] at hcall
     have HB := hid h3; clear h3
     go_wp2_with (go_at_fn g; refine (hcall _).mono ?_; rintro e w' ⟨rfl, rfl⟩)
     go_round
     case rel =>
      refine ⟨k + 1, by omega, by go_num, by rw [HBS.out, HX.out], fun j hj => ?_⟩
      rcases Nat.lt_succ_iff_lt_or_eq.1 hj with h | rfl
      ·exact HA.out j h
      ·exact HB.out
     case measure => simp [intOf]; omega
    ·rw [h3] at hcall
     have HB := hid h3; clear h3
     go_wp2_with (go_at_fn g; refine (hcall _).mono ?_; rintro e w' ⟨rfl, rfl⟩)
     go_ret
     exact ⟨ret_b (every_no (i := k) (by rw [HL.out]; exact hlt) HB.out).symm, rfl⟩
  ·go_wp2
   go_ret
   obtain rfl : k = s.size := by omega
   exact ⟨ret_b (every_yes (fun i hi => HA.out i (by rw [HL.out] at hi; exact hi))).symm, rfl⟩
end
end Go.Proofs.YtgdejjkiiaodkaaGreatDoor
