/- The contract of the document's own Good. -/
import Derived.Test.YtemndagaicamiaaGreatDoorMergeQ
namespace Go.Proofs.YtemndagaicamiaaGreatDoor
open Go.RowKit
open Q6
set_option linter.unusedVariables false
theorem good_num (c : UInt8) (m : Nat) (hm : c.toNat = m) : good c = (decide (32 ≤ m) && decide (m ≠ 127)) := by subst hm; rfl
theorem Good_any (c : UInt8) (w : World) : Calls Tryz.prog 39 #[.int .u8 c.toNat] w fun e w' => e = .returned (.bool (good c)) ∧ w = w' := by
  have hc := c.toNat_lt
  obtain ⟨m, hm⟩ : ∃ m, c.toNat = m := ⟨_, rfl⟩
  have HG := Lib.hid (good_num c m hm)
  rw [hm] at hc ⊢
  clear hm
  by_cases h1 : m < 32
  · rw [decide_eq_false (by omega : ¬ 32 ≤ m), Bool.false_and] at HG
    have a1 : ¬ (32 : Int) ≤ (m : Int) := by omega
    have a2 : ¬ (128 : Int) ≤ (m : Int) := by omega
    go_enter Tryz.func39, Tryz.ntmps39
    go_wp2
    go_ret
    exact ⟨ret_b HG.out.symm, rfl⟩
  have a1 : (32 : Int) ≤ (m : Int) := by omega
  by_cases h2 : m ≤ 126
  · rw [decide_eq_true (by omega : 32 ≤ m), decide_eq_true (by omega : m ≠ 127)] at HG
    have a2 : (m : Int) ≤ 126 := by omega
    go_enter Tryz.func39, Tryz.ntmps39
    go_wp2
    go_ret
    exact ⟨ret_b HG.out.symm, rfl⟩
  have a2 : ¬ (m : Int) ≤ 126 := by omega
  by_cases h3 : m = 127
  · rw [decide_eq_false (by omega : ¬ m ≠ 127), Bool.and_false] at HG
    have a3 : ¬ (128 : Int) ≤ (m : Int) := by omega
    clear h3
    go_enter Tryz.func39, Tryz.ntmps39
    go_wp2
    go_ret
    exact ⟨ret_b HG.out.symm, rfl⟩
  · rw [decide_eq_true (by omega : 32 ≤ m), decide_eq_true h3] at HG
    have a3 : (128 : Int) ≤ (m : Int) := by omega
    clear h3
    go_enter Tryz.func39, Tryz.ntmps39
    go_wp2
    go_ret
    exact ⟨ret_b HG.out.symm, rfl⟩
theorem Good_q (c : UInt8) (b : Bool) (w : World) (h : good c = b) : Calls Tryz.prog 39 #[.int .u8 c.toNat] w fun e w' => e = .returned (.bool b) ∧ w = w' := by
  subst h; exact Good_any c w
end Go.Proofs.YtemndagaicamiaaGreatDoor
