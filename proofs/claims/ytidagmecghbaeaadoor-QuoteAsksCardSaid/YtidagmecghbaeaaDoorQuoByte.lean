/- The contracts of quote's functions on single bytes, and of the closures that check a byte between its neighbours. -/
import Derived.Test.YtidagmecghbaeaaDoorRows
import Derived.Test.YtidagmecghbaeaaDoorShelf
import Derived.Test.YtidagmecghbaeaaDoorQuoScan
import Derived.WalkKit
import Derived.ProofKit
import Derived.Lib.Hide
import Derived.Deep.QuietTactic
import Derived.BigQuiet
namespace Go.Proofs.YtidagmecghbaeaaDoor
open Go.RowKit
open Q6
set_option linter.unusedVariables false
theorem ret_b {a b : Bool} (h : a = b) : Ending.returned (.bool a) = .returned (.bool b) := by rw [h]
theorem ret_int {k : IntKind} {a b : Int} (h : a = b) : Ending.returned (.int k a) = .returned (.int k b) := by rw [h]
theorem ret_s {a b : ByteArray} (h : a = b) : Ending.returned (.string a) = .returned (.string b) := by rw [h]
theorem len_eq (s : ByteArray) : s.data.toList.length = s.size := rfl
theorem isC_beq (k c : UInt8) (x : Int) (h : (k.toNat : Int) = x) : ((c.toNat : Int) == x) = isC k c := by
  subst h
  unfold isC
  rw [Bool.eq_iff_iff]
  simp only [beq_iff_eq, decide_eq_true_eq]
  constructor
  · intro h; apply UInt8.toNat_inj.1; omega
  · intro h; rw [h]
theorem isC_bne (k c : UInt8) (x : Int) (h : (k.toNat : Int) = x) : ((c.toNat : Int) != x) = !isC k c := by
  show (!((c.toNat : Int) == x)) = _
  rw [isC_beq k c x h]
theorem isC_ne {k j c : UInt8} (h : isC k c = true) (hkj : k ≠ j) : isC j c = false := by
  rw [Bool.eq_false_iff]; intro e
  exact hkj ((isC_iff.1 h).symm.trans (isC_iff.1 e))

theorem printable_any (c : UInt8) (w : World) : Calls Tryd.prog 21 #[.int .u8 c.toNat] w fun e w' => e = .returned (.bool (good c)) ∧ w = w' := by
  by_cases h1 : (32 : Int) ≤ (c.toNat : Int)
  · rcases Bool.eq_false_or_eq_true (isC 127 c) with h2 | h2
    all_goals
      have H : Hid (good c = !isC 127 c) := Lib.hid (by
        unfold good isC
        rw [decide_eq_true (by omega : 32 ≤ c.toNat), Bool.true_and, ← decide_not, decide_eq_decide]
        exact ⟨fun e e2 => e (by rw [e2]; rfl), fun e e2 => e (UInt8.toNat_inj.1 e2)⟩)
      have m := isC_bne 127 c 127 rfl
      rw [h2] at m H
      go_enter Tryd.func21, Tryd.ntmps21
      go_wp2
      all_goals (go_ret; exact ⟨ret_b H.out.symm, rfl⟩)
  · have H : Hid (good c = false) := Lib.hid (by unfold good; rw [decide_eq_false (by omega : ¬ 32 ≤ c.toNat)]; rfl)
    go_enter Tryd.func21, Tryd.ntmps21
    go_wp2
    go_ret
    exact ⟨ret_b H.out.symm, rfl⟩
theorem contains_any (s : ByteArray) (l : List UInt8) (hl : s.data.toList = l) (c : UInt8) (w : World) :
    Calls Tryd.prog 24 #[.string s, .int .u8 c.toNat] w fun e w' => e = .returned (.bool (has l c)) ∧ w = w' := by
  subst hl
  have H := Lib.hid (index_has s.data.toList c)
  have hc : ((c.toNat : Int)).toNat.toUInt8 = c := by simp
  have hI := Tryd.strings_IndexByte s (c.toNat : Int)
  rw [hc] at hI
  generalize Lib.indexByte s.data.toList c = x at *
  clear hc
  go_enter Tryd.func24, Tryd.ntmps24
  go_wp2_with (go_at_call 30; refine (hI _).mono ?_; rintro e w' ⟨rfl, hw⟩; subst hw)
  go_ret
  exact ⟨ret_b H.out, rfl⟩
theorem has_row (c : UInt8) (w : World) : Calls Tryd.prog 24 #[.string ⟨#[44, 91, 93, 123, 125]⟩, .int .u8 c.toNat] w fun e w' => e = .returned (.bool (has marks c)) ∧ w = w' := contains_any _ _ rfl c w
theorem has_first (c : UInt8) (w : World) : Calls Tryd.prog 24 #[.string ⟨#[44, 91, 93, 123, 125, 63, 58, 35, 38, 42, 33, 124, 62, 39, 34, 37, 64, 96]⟩, .int .u8 c.toNat] w fun e w' => e = .returned (.bool (has firsts c)) ∧ w = w' := contains_any _ _ rfl c w
theorem row1_any (b c a : UInt8) (w : World) : Calls Tryd.prog 25 #[.int .u8 b.toNat, .int .u8 c.toNat, .int .u8 a.toNat] w fun e w' => e = .returned (.bool (rowF b c a)) ∧ w = w' := by
  have H : Hid (rowF b c a = !has marks c) := Lib.hid rfl
  go_enter Tryd.func25, Tryd.ntmps25
  go_wp2_with (go_at_call 24; refine (has_row _ _).mono ?_; rintro e w' ⟨rfl, rfl⟩)
  go_ret
  exact ⟨ret_b H.out.symm, rfl⟩
theorem single1_any (b c a : UInt8) (w : World) : Calls Tryd.prog 20 #[.int .u8 b.toNat, .int .u8 c.toNat, .int .u8 a.toNat] w fun e w' => e = .returned (.bool (goodF b c a)) ∧ w = w' := by
  have H : Hid (goodF b c a = good c) := Lib.hid rfl
  go_enter Tryd.func20, Tryd.ntmps20
  go_wp2_with (go_at_call 21; refine (printable_any _ _).mono ?_; rintro e w' ⟨rfl, rfl⟩)
  go_ret
  exact ⟨ret_b H.out.symm, rfl⟩
end Go.Proofs.YtidagmecghbaeaaDoor
