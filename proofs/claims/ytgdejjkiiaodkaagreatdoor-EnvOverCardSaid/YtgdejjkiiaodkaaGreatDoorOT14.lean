/- QuoPlain, QuoHex -/
import Derived.IntWalk
import Derived.Test.YtgdejjkiiaodkaaGreatDoorOT13
set_option linter.unusedVariables false
set_option linter.unusedSimpArgs false
set_option maxRecDepth 100000
set_option maxHeartbeats 16000000
open Go.Lib (hid)
namespace Go.Proofs.YtgdejjkiiaodkaaGreatDoor
section
open Go.RowKit
open Q6
theorem tells_good : Tells3 129 goodF := ⟨enters_of Tryz.func129 (by kernel_rfl) rfl, single1_any⟩
theorem bytes_of {s : ByteArray} {l : Array UInt8} (h : s.data.toList = l.toList) : s = ⟨l⟩ := by
 cases s; rename_i x; cases x; cases l; simp at h; simp [h]
theorem every_q (s : ByteArray) (g : Nat) (F : UInt8 → UInt8 → UInt8 → Bool) (b : Bool) (w : World) (hs : s.size ≤ maxLen) (T : Tells3 g F) (h : everyB F s.data.toList = b) :
  Calls Tryz.prog 128 #[.string s, .func (.func g) #[] #[]] w fun e w' => e = .returned (.bool b) ∧ w = w' := by
 subst h; exact every_any s g F w hs T
end
section
open Go.RowKit
open Q6
def hexI (c : UInt8) : Int := if hexV c < 16 then (hexV c : Int) else -1
theorem wrap8 {n : Int} (h1 : 0 ≤ n) (h2 : n ≤ 255) : IntKind.u8.wrap n = n := by simp [IntKind.wrap, IntKind.bits, IntKind.signed]; omega
theorem hexDigit_any (c : UInt8) (w : World) : Calls Tryz.prog 134 #[.int .u8 c.toNat] w fun e w' => e = .returned (.int .i64 (hexI c)) ∧ w = w' := by
 have hc := c.toNat_lt
 obtain ⟨m, hm⟩ : ∃ m, c.toNat = m := ⟨_, rfl⟩
 have HV : Hid (hexI c = if 48 ≤ m ∧ m ≤ 57 then ((m - 48 : Nat) : Int) else if 97 ≤ m ∧ m ≤ 102 then ((m - 87 : Nat) : Int) else if 65 ≤ m ∧ m ≤ 70 then ((m - 55 : Nat) : Int) else -1) := hid (by
  unfold hexI hexV
  rw [hm]
  by_cases a1 : 48 ≤ m ∧ m ≤ 57
  ·rw [if_pos a1, if_pos a1, if_pos (by omega)]
  ·rw [if_neg a1, if_neg a1]
   by_cases a2 : 97 ≤ m ∧ m ≤ 102
   ·rw [if_pos a2, if_pos a2, if_pos (by omega)]
   ·rw [if_neg a2, if_neg a2]
    by_cases a3 : 65 ≤ m ∧ m ≤ 70
    ·rw [if_pos a3, if_pos a3, if_pos (by omega)]
    ·rw [if_neg a3, if_neg a3]; rfl)
 rw [hm] at hc ⊢
 clear hm
 by_cases h0 : m < 48
 ·rw [if_neg (by omega), if_neg (by omega), if_neg (by omega)] at HV
  have a1 : ¬ (48 : Int) ≤ (m : Int) := by omega
  have a2 : ¬ (97 : Int) ≤ (m : Int) := by omega
  have a3 : ¬ (65 : Int) ≤ (m : Int) := by omega
  go_enter Tryz.func134, Tryz.ntmps134
  go_wp2
  go_ret
  exact ⟨ret_int HV.out.symm, rfl⟩
 have a1 : (48 : Int) ≤ (m : Int) := by omega
 by_cases h1 : m ≤ 57
 ·rw [if_pos ⟨by omega, h1⟩] at HV
  have b1 : (m : Int) ≤ 57 := by omega
  have w1 : IntKind.u8.wrap ((m : Int) - 48) = (m : Int) - 48 := wrap8 (by omega) (by omega)
  go_enter Tryz.func134, Tryz.ntmps134
  go_wp2
  go_ret
  exact ⟨ret_int (by rw [HV.out]; omega), rfl⟩
 have b1 : ¬ (m : Int) ≤ 57 := by omega
 by_cases h2 : m < 65
 ·rw [if_neg (by omega), if_neg (by omega), if_neg (by omega)] at HV
  have a2 : ¬ (97 : Int) ≤ (m : Int) := by omega
  have a3 : ¬ (65 : Int) ≤ (m : Int) := by omega
  go_enter Tryz.func134, Tryz.ntmps134
  go_wp2
  go_ret
  exact ⟨ret_int HV.out.symm, rfl⟩
 have a3 : (65 : Int) ≤ (m : Int) := by omega
 by_cases h3 : m ≤ 70
 ·rw [if_neg (by omega), if_neg (by omega), if_pos (by omega)] at HV
  have a2 : ¬ (97 : Int) ≤ (m : Int) := by omega
  have b3 : (m : Int) ≤ 70 := by omega
  have w1 : IntKind.u8.wrap ((m : Int) - 65) = (m : Int) - 65 := wrap8 (by omega) (by omega)
  go_enter Tryz.func134, Tryz.ntmps134
  go_wp2
  go_ret
  exact ⟨ret_int (by rw [HV.out]; omega), rfl⟩
 have b3 : ¬ (m : Int) ≤ 70 := by omega
 by_cases h4 : m < 97
 ·rw [if_neg (by omega), if_neg (by omega), if_neg (by omega)] at HV
  have a2 : ¬ (97 : Int) ≤ (m : Int) := by omega
  go_enter Tryz.func134, Tryz.ntmps134
  go_wp2
  go_ret
  exact ⟨ret_int HV.out.symm, rfl⟩
 have a2 : (97 : Int) ≤ (m : Int) := by omega
 by_cases h5 : m ≤ 102
 ·rw [if_neg (by omega), if_pos (by omega)] at HV
  have b2 : (m : Int) ≤ 102 := by omega
  have w1 : IntKind.u8.wrap ((m : Int) - 97) = (m : Int) - 97 := wrap8 (by omega) (by omega)
  go_enter Tryz.func134, Tryz.ntmps134
  go_wp2
  go_ret
  exact ⟨ret_int (by rw [HV.out]; omega), rfl⟩
 ·rw [if_neg (by omega), if_neg (by omega), if_neg (by omega)] at HV
  have b2 : ¬ (m : Int) ≤ 102 := by omega
  go_enter Tryz.func134, Tryz.ntmps134
  go_wp2
  go_ret
  exact ⟨ret_int HV.out.symm, rfl⟩
end
end Go.Proofs.YtgdejjkiiaodkaaGreatDoor
