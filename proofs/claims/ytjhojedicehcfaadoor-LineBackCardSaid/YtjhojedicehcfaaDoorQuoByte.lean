/- The contracts of quote's functions on single bytes, and of the closures that check a byte between its neighbours. -/
import Derived.Test.YtjhojedicehcfaaDoorRows
import Derived.Shelf.Small.Strs
import Derived.Shelf.Strings.Prefix
import Derived.Test.YtjhojedicehcfaaDoorQuoScan
import Derived.WalkKit
import Derived.ProofKit
import Derived.Lib.Hide
import Derived.Deep.QuietTactic
import Derived.BigQuiet
namespace Go.Proofs.YtjhojedicehcfaaDoor
open Go.RowKit
open Q6
set_option linter.unusedVariables false
theorem ret_b {a b : Bool} (h : a = b) : Ending.returned (.bool a) = .returned (.bool b) := by rw [h]
theorem ret_int {k : IntKind} {a b : Int} (h : a = b) : Ending.returned (.int k a) = .returned (.int k b) := by rw [h]
theorem ret_s {a b : ByteArray} (h : a = b) : Ending.returned (.string a) = .returned (.string b) := by rw [h]
theorem len_eq (s : ByteArray) : s.data.toList.length = s.size := rfl
theorem isC_beq (k c : UInt8) (x : Int) (h : (k.toNat : Int) = x) : ((c.toNat : Int) == x) = isC k c := by
  subst h
  unfold isC
  rw [Bool.eq_iff_iff]
  simp only [beq_iff_eq, decide_eq_true_eq]
  constructor
  · intro h; apply UInt8.toNat_inj.1; omega
  · intro h; rw [h]
theorem isC_bne (k c : UInt8) (x : Int) (h : (k.toNat : Int) = x) : ((c.toNat : Int) != x) = !isC k c := by
  show (!((c.toNat : Int) == x)) = _
  rw [isC_beq k c x h]
theorem isC_ne {k j c : UInt8} (h : isC k c = true) (hkj : k ≠ j) : isC j c = false := by
  rw [Bool.eq_false_iff]; intro e
  exact hkj ((isC_iff.1 h).symm.trans (isC_iff.1 e))

theorem printable_any (c : UInt8) (w : World) : Calls Tryd.prog 54 #[.int .u8 c.toNat] w fun e w' => e = .returned (.bool (good c)) ∧ w = w' := by
  by_cases h1 : (32 : Int) ≤ (c.toNat : Int)
  · rcases Bool.eq_false_or_eq_true (isC 127 c) with h2 | h2
    all_goals
      have H : Hid (good c = !isC 127 c) := Lib.hid (by
        unfold good isC
        rw [decide_eq_true (by omega : 32 ≤ c.toNat), Bool.true_and, ← decide_not, decide_eq_decide]
        exact ⟨fun e e2 => e (by rw [e2]; rfl), fun e e2 => e (UInt8.toNat_inj.1 e2)⟩)
      have m := isC_bne 127 c 127 rfl
      rw [h2] at m H
      go_enter Tryd.func54, Tryd.ntmps54
      go_wp2
      all_goals (go_ret; exact ⟨ret_b H.out.symm, rfl⟩)
  · have H : Hid (good c = false) := Lib.hid (by unfold good; rw [decide_eq_false (by omega : ¬ 32 ≤ c.toNat)]; rfl)
    go_enter Tryd.func54, Tryd.ntmps54
    go_wp2
    go_ret
    exact ⟨ret_b H.out.symm, rfl⟩
theorem single1_any (b c a : UInt8) (w : World) : Calls Tryd.prog 53 #[.int .u8 b.toNat, .int .u8 c.toNat, .int .u8 a.toNat] w fun e w' => e = .returned (.bool (goodF b c a)) ∧ w = w' := by
  have H : Hid (goodF b c a = good c) := Lib.hid rfl
  go_enter Tryd.func53, Tryd.ntmps53
  go_wp2_with (go_at_call 54; refine (printable_any _ _).mono ?_; rintro e w' ⟨rfl, rfl⟩)
  go_ret
  exact ⟨ret_b H.out.symm, rfl⟩
end Go.Proofs.YtjhojedicehcfaaDoor
