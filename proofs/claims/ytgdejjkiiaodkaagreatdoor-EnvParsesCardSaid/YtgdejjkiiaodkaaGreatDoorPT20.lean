/- RefGood, RefValue -/
import Derived.Test.YtgdejjkiiaodkaaGreatDoorPT19
set_option linter.unusedVariables false
set_option linter.unusedSimpArgs false
set_option maxRecDepth 100000
set_option maxHeartbeats 16000000
open Go.Lib (hid)
namespace Go.Proofs.YtgdejjkiiaodkaaGreatDoor
section
open Go.RowKit
open Q6
theorem good_num (c : UInt8) (m : Nat) (hm : c.toNat = m) : good c = (decide (32 ≤ m) && decide (m ≠ 127)) := by subst hm; rfl
theorem Good_any (c : UInt8) (w : World) : Calls Tryz.prog 41 #[.int .u8 c.toNat] w fun e w' => e = .returned (.bool (good c)) ∧ w = w' := by
 have hc := c.toNat_lt
 obtain ⟨m, hm⟩ : ∃ m, c.toNat = m := ⟨_, rfl⟩
 have HG := hid (good_num c m hm)
 rw [hm] at hc ⊢
 clear hm
 by_cases h1 : m < 32
 ·rw [decide_eq_false (by omega : ¬ 32 ≤ m), Bool.false_and] at HG
  have a1 : ¬ (32 : Int) ≤ (m : Int) := by omega
  have a2 : ¬ (128 : Int) ≤ (m : Int) := by omega
  go_enter Tryz.func41, Tryz.ntmps41
  go_wp2
  go_ret
  exact ⟨ret_b HG.out.symm, rfl⟩
 have a1 : (32 : Int) ≤ (m : Int) := by omega
 by_cases h2 : m ≤ 126
 ·rw [decide_eq_true (by omega : 32 ≤ m), decide_eq_true (by omega : m ≠ 127)] at HG
  have a2 : (m : Int) ≤ 126 := by omega
  go_enter Tryz.func41, Tryz.ntmps41
  go_wp2
  go_ret
  exact ⟨ret_b HG.out.symm, rfl⟩
 have a2 : ¬ (m : Int) ≤ 126 := by omega
 by_cases h3 : m = 127
 ·rw [decide_eq_false (by omega : ¬ m ≠ 127), Bool.and_false] at HG
  have a3 : ¬ (128 : Int) ≤ (m : Int) := by omega
  clear h3
  go_enter Tryz.func41, Tryz.ntmps41
  go_wp2
  go_ret
  exact ⟨ret_b HG.out.symm, rfl⟩
 ·rw [decide_eq_true (by omega : 32 ≤ m), decide_eq_true h3] at HG
  have a3 : (128 : Int) ≤ (m : Int) := by omega
  clear h3
  go_enter Tryz.func41, Tryz.ntmps41
  go_wp2
  go_ret
  exact ⟨ret_b HG.out.symm, rfl⟩
theorem Good_q (c : UInt8) (b : Bool) (w : World) (h : good c = b) : Calls Tryz.prog 41 #[.int .u8 c.toNat] w fun e w' => e = .returned (.bool b) ∧ w = w' := by
 subst h; exact Good_any c w
end
section
open Go.RowKit
open Q6
theorem hexV_num (c : UInt8) (m : Nat) (hm : c.toNat = m) : (hexV c : Int) = if 48 ≤ m ∧ m ≤ 57 then (m : Int) - 48 else if 97 ≤ m ∧ m ≤ 102 then (m : Int) - 87 else if 65 ≤ m ∧ m ≤ 70 then (m : Int) - 55 else 16 := by
 unfold hexV
 rw [hm]
 by_cases a1 : 48 ≤ m ∧ m ≤ 57
 ·rw [if_pos a1, if_pos a1]; omega
 ·rw [if_neg a1, if_neg a1]
  by_cases a2 : 97 ≤ m ∧ m ≤ 102
  ·rw [if_pos a2, if_pos a2]; omega
  ·rw [if_neg a2, if_neg a2]
   by_cases a3 : 65 ≤ m ∧ m ≤ 70
   ·rw [if_pos a3, if_pos a3]; omega
   ·rw [if_neg a3, if_neg a3]; rfl
theorem value_any (c : UInt8) (w : World) : Calls Tryz.prog 118 #[.int .u8 c.toNat] w fun e w' => e = .returned (.int .i64 (hexV c : Int)) ∧ w = w' := by
 have hc := c.toNat_lt
 obtain ⟨m, hm⟩ : ∃ m, c.toNat = m := ⟨_, rfl⟩
 have HV := hid (hexV_num c m hm)
 rw [hm] at hc ⊢
 clear hm
 have mw : IntKind.i64.wrap (m : Int) = (m : Int) := IntWalk.i64_in _ (by omega)
 by_cases h0 : m < 48
 ·rw [if_neg (by omega), if_neg (by omega), if_neg (by omega)] at HV
  have a1 : ¬ (48 : Int) ≤ (m : Int) := by omega
  have a2 : ¬ (97 : Int) ≤ (m : Int) := by omega
  have a3 : ¬ (65 : Int) ≤ (m : Int) := by omega
  go_enter Tryz.func118, Tryz.ntmps118
  go_wp2
  go_ret
  exact ⟨ret_int HV.out.symm, rfl⟩
 have a1 : (48 : Int) ≤ (m : Int) := by omega
 by_cases h1 : m ≤ 57
 ·rw [if_pos ⟨by omega, h1⟩] at HV
  have b1 : (m : Int) ≤ 57 := by omega
  have w1 : IntKind.i64.wrap ((m : Int) - 48) = (m : Int) - 48 := IntWalk.i64_in _ (by omega)
  go_enter Tryz.func118, Tryz.ntmps118
  go_wp2
  go_ret
  exact ⟨ret_int (by rw [HV.out]), rfl⟩
 have b1 : ¬ (m : Int) ≤ 57 := by omega
 by_cases h2 : m < 65
 ·rw [if_neg (by omega), if_neg (by omega), if_neg (by omega)] at HV
  have a2 : ¬ (97 : Int) ≤ (m : Int) := by omega
  have a3 : ¬ (65 : Int) ≤ (m : Int) := by omega
  go_enter Tryz.func118, Tryz.ntmps118
  go_wp2
  go_ret
  exact ⟨ret_int HV.out.symm, rfl⟩
 have a3 : (65 : Int) ≤ (m : Int) := by omega
 by_cases h3 : m ≤ 70
 ·rw [if_neg (by omega), if_neg (by omega), if_pos (by omega)] at HV
  have a2 : ¬ (97 : Int) ≤ (m : Int) := by omega
  have b3 : (m : Int) ≤ 70 := by omega
  have w1 : IntKind.i64.wrap ((m : Int) - 55) = (m : Int) - 55 := IntWalk.i64_in _ (by omega)
  go_enter Tryz.func118, Tryz.ntmps118
  go_wp2
  go_ret
  exact ⟨ret_int (by rw [HV.out]), rfl⟩
 have b3 : ¬ (m : Int) ≤ 70 := by omega
 by_cases h4 : m < 97
 ·rw [if_neg (by omega), if_neg (by omega), if_neg (by omega)] at HV
  have a2 : ¬ (97 : Int) ≤ (m : Int) := by omega
  go_enter Tryz.func118, Tryz.ntmps118
  go_wp2
  go_ret
  exact ⟨ret_int HV.out.symm, rfl⟩
 have a2 : (97 : Int) ≤ (m : Int) := by omega
 by_cases h5 : m ≤ 102
 ·rw [if_neg (by omega), if_pos (by omega)] at HV
  have b2 : (m : Int) ≤ 102 := by omega
  have w1 : IntKind.i64.wrap ((m : Int) - 87) = (m : Int) - 87 := IntWalk.i64_in _ (by omega)
  go_enter Tryz.func118, Tryz.ntmps118
  go_wp2
  go_ret
  exact ⟨ret_int (by rw [HV.out]), rfl⟩
 ·rw [if_neg (by omega), if_neg (by omega), if_neg (by omega)] at HV
  have b2 : ¬ (m : Int) ≤ 102 := by omega
  go_enter Tryz.func118, Tryz.ntmps118
  go_wp2
  go_ret
  exact ⟨ret_int HV.out.symm, rfl⟩
theorem value_q (c : UInt8) (v : Nat) (w : World) (h : hexV c = v) : Calls Tryz.prog 118 #[.int .u8 c.toNat] w fun e w' => e = .returned (.int .i64 (v : Int)) ∧ w = w' := by
 subst h; exact value_any c w
end
end Go.Proofs.YtgdejjkiiaodkaaGreatDoor
