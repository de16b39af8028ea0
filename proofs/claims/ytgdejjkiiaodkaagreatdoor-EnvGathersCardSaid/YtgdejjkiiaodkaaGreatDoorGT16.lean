/- QuoPlain, QuoHex, QuoEsc -/
import Derived.IntWalk
import Derived.Test.YtgdejjkiiaodkaaGreatDoorGT15
set_option linter.unusedVariables false
set_option linter.unusedSimpArgs false
set_option maxRecDepth 100000
set_option maxHeartbeats 16000000
open Go.Lib (hid)
namespace Go.Proofs.YtgdejjkiiaodkaaGreatDoor
section
open Go.RowKit
open Q6
theorem tells_good : Tells3 129 goodF := ⟨enters_of Tryz.func129 (by kernel_rfl) rfl, single1_any⟩
theorem bytes_of {s : ByteArray} {l : Array UInt8} (h : s.data.toList = l.toList) : s = ⟨l⟩ := by
 cases s; rename_i x; cases x; cases l; simp at h; simp [h]
theorem every_q (s : ByteArray) (g : Nat) (F : UInt8 → UInt8 → UInt8 → Bool) (b : Bool) (w : World) (hs : s.size ≤ maxLen) (T : Tells3 g F) (h : everyB F s.data.toList = b) :
  Calls Tryz.prog 128 #[.string s, .func (.func g) #[] #[]] w fun e w' => e = .returned (.bool b) ∧ w = w' := by
 subst h; exact every_any s g F w hs T
end
section
open Go.RowKit
open Q6
def hexI (c : UInt8) : Int := if hexV c < 16 then (hexV c : Int) else -1
theorem wrap8 {n : Int} (h1 : 0 ≤ n) (h2 : n ≤ 255) : IntKind.u8.wrap n = n := by simp [IntKind.wrap, IntKind.bits, IntKind.signed]; omega
theorem hexDigit_any (c : UInt8) (w : World) : Calls Tryz.prog 134 #[.int .u8 c.toNat] w fun e w' => e = .returned (.int .i64 (hexI c)) ∧ w = w' := by
 have hc := c.toNat_lt
 obtain ⟨m, hm⟩ : ∃ m, c.toNat = m := ⟨_, rfl⟩
 have HV : Hid (hexI c = if 48 ≤ m ∧ m ≤ 57 then ((m - 48 : Nat) : Int) else if 97 ≤ m ∧ m ≤ 102 then ((m - 87 : Nat) : Int) else if 65 ≤ m ∧ m ≤ 70 then ((m - 55 : Nat) : Int) else -1) := hid (by
  unfold hexI hexV
  rw [hm]
  by_cases a1 : 48 ≤ m ∧ m ≤ 57
  ·rw [if_pos a1, if_pos a1, if_pos (by omega)]
  ·rw [if_neg a1, if_neg a1]
   by_cases a2 : 97 ≤ m ∧ m ≤ 102
   ·rw [if_pos a2, if_pos a2, if_pos (by omega)]
   ·rw [if_neg a2, if_neg a2]
    by_cases a3 : 65 ≤ m ∧ m ≤ 70
    ·rw [if_pos a3, if_pos a3, if_pos (by omega)]
    ·rw [if_neg a3, if_neg a3]; rfl)
 rw [hm] at hc ⊢
 clear hm
 by_cases h0 : m < 48
 ·rw [if_neg (by omega), if_neg (by omega), if_neg (by omega)] at HV
  have a1 : ¬ (48 : Int) ≤ (m : Int) := by omega
  have a2 : ¬ (97 : Int) ≤ (m : Int) := by omega
  have a3 : ¬ (65 : Int) ≤ (m : Int) := by omega
  go_enter Tryz.func134, Tryz.ntmps134
  go_wp2
  go_ret
  exact ⟨ret_int HV.out.symm, rfl⟩
 have a1 : (48 : Int) ≤ (m : Int) := by omega
 by_cases h1 : m ≤ 57
 ·rw [if_pos ⟨by omega, h1⟩] at HV
  have b1 : (m : Int) ≤ 57 := by omega
  have w1 : IntKind.u8.wrap ((m : Int) - 48) = (m : Int) - 48 := wrap8 (by omega) (by omega)
  go_enter Tryz.func134, Tryz.ntmps134
  go_wp2
  go_ret
  exact ⟨ret_int (by rw [HV.out]; omega), rfl⟩
 have b1 : ¬ (m : Int) ≤ 57 := by omega
 by_cases h2 : m < 65
 ·rw [if_neg (by omega), if_neg (by omega), if_neg (by omega)] at HV
  have a2 : ¬ (97 : Int) ≤ (m : Int) := by omega
  have a3 : ¬ (65 : Int) ≤ (m : Int) := by omega
  go_enter Tryz.func134, Tryz.ntmps134
  go_wp2
  go_ret
  exact ⟨ret_int HV.out.symm, rfl⟩
 have a3 : (65 : Int) ≤ (m : Int) := by omega
 by_cases h3 : m ≤ 70
 ·rw [if_neg (by omega), if_neg (by omega), if_pos (by omega)] at HV
  have a2 : ¬ (97 : Int) ≤ (m : Int) := by omega
  have b3 : (m : Int) ≤ 70 := by omega
  have w1 : IntKind.u8.wrap ((m : Int) - 65) = (m : Int) - 65 := wrap8 (by omega) (by omega)
  go_enter Tryz.func134, Tryz.ntmps134
  go_wp2
  go_ret
  exact ⟨ret_int (by rw [HV.out]; omega), rfl⟩
 have b3 : ¬ (m : Int) ≤ 70 := by omega
 by_cases h4 : m < 97
 ·rw [if_neg (by omega), if_neg (by omega), if_neg (by omega)] at HV
  have a2 : ¬ (97 : Int) ≤ (m : Int) := by omega
  go_enter Tryz.func134, Tryz.ntmps134
  go_wp2
  go_ret
  exact ⟨ret_int HV.out.symm, rfl⟩
 have a2 : (97 : Int) ≤ (m : Int) := by omega
 by_cases h5 : m ≤ 102
 ·rw [if_neg (by omega), if_pos (by omega)] at HV
  have b2 : (m : Int) ≤ 102 := by omega
  have w1 : IntKind.u8.wrap ((m : Int) - 97) = (m : Int) - 97 := wrap8 (by omega) (by omega)
  go_enter Tryz.func134, Tryz.ntmps134
  go_wp2
  go_ret
  exact ⟨ret_int (by rw [HV.out]; omega), rfl⟩
 ·rw [if_neg (by omega), if_neg (by omega), if_neg (by omega)] at HV
  have b2 : ¬ (m : Int) ≤ 102 := by omega
  go_enter Tryz.func134, Tryz.ntmps134
  go_wp2
  go_ret
  exact ⟨ret_int HV.out.symm, rfl⟩
end
section
open Go.RowKit
open Q6
theorem or_dec : ∀ h l : Fin 16, bits .or .i64 (((h.val * 16 : Nat)) : Int) (l.val : Int) = ((16 * h.val + l.val : Nat) : Int) := by decide +kernel
theorem or_hex {h l : Nat} (hh : h < 16) (hl : l < 16) : bits .or .i64 ((h : Int) * 16) (l : Int) = ((16 * h + l : Nat) : Int) := by
 have e : ((h : Int) * 16) = ((h * 16 : Nat) : Int) := by omega
 rw [e]
 exact or_dec ⟨h, hh⟩ ⟨l, hl⟩
theorem hexDigit_q (c : UInt8) (x : Int) (w : World) (m : Nat) (h : hexI c = x) :
  Calls Tryz.prog 134 #[.int .u8 c.toNat] (w.drewN m) fun e w'' => e = .returned (.int .i64 x) ∧ ∃ m', w'' = w.drewN m' := by
 subst h
 exact Calls.quiet_of_same ((hexDigit_any c _).mono fun e w' ⟨h1, h2⟩ => ⟨h1, h2.symm⟩)
theorem get2 {s : ByteArray} {k : Nat} (h : k < s.size) : s.data.toList.drop k = s[k] :: s.data.toList.drop (k + 1) := by
 rw [List.drop_eq_getElem_cons (by rw [len_eq]; exact h)]; rfl
theorem hexI_cases (c : UInt8) : (hexI c = -1 ∧ ¬ hexV c < 16) ∨ (hexV c < 16 ∧ hexI c = (hexV c : Int)) := by
 unfold hexI
 by_cases h : hexV c < 16
 ·rw [if_pos h]; exact .inr ⟨h, rfl⟩
 ·rw [if_neg h]; exact .inl ⟨rfl, h⟩
theorem hexEscape_any (s : ByteArray) (v : UInt8) (m : Nat) (w : World) (hs : s.size ≤ maxLen) (h : denX (s.data.toList.drop 2) = (v, m)) :
  Calls Tryz.prog 132 #[.string s] w fun e w' => e = .returned (.tuple #[.int .u8 v.toNat, .int .i64 m]) ∧ ∃ q, w' = w.drewN q := by
 unfold maxLen at hs
 by_cases h4 : s.size < 4
 ·have h4' : (s.size : Int) < 4 := by omega
  have H : Hid (v = 0 ∧ m = 0) := hid (by
   have hl : (s.data.toList.drop 2).length < 2 := by rw [List.length_drop, len_eq]; omega
   generalize s.data.toList.drop 2 = d at h hl
   match d, hl, h with
   | [], _, h => cases h; exact ⟨rfl, rfl⟩
   | [a], _, h => cases h; exact ⟨rfl, rfl⟩)
  clear h
  go_enter Tryz.func132, Tryz.ntmps132
  go_wp2
  go_ret2
  exact ⟨by rw [H.out.1, H.out.2]; rfl, 0, rfl⟩
 ·have h4' : ¬ (s.size : Int) < 4 := by omega
  have i2 : 2 < s.size := by omega
  have i3 : 3 < s.size := by omega
  have i2z : (2 : Int) < (s.size : Int) := by omega
  have i3z : (3 : Int) < (s.size : Int) := by omega
  rw [get2 i2, get2 i3, denX_two] at h
  obtain ⟨c2, hc2⟩ : ∃ c, s[2] = c := ⟨_, rfl⟩
  obtain ⟨c3, hc3⟩ : ∃ c, s[3] = c := ⟨_, rfl⟩
  rw [hc2, hc3] at h
  rcases hexI_cases c2 with ⟨e2, n2⟩ | ⟨n2, e2⟩
  ·have H : Hid (v = 0 ∧ m = 0) := hid (by rw [if_neg (fun e => n2 e.1)] at h; cases h; exact ⟨rfl, rfl⟩)
   obtain ⟨x, e3⟩ : ∃ x, hexI c3 = x := ⟨_, rfl⟩
   have E2 := hid e2
   have E3 := hid e3
   clear h n2 e2 e3
   go_enter Tryz.func132, Tryz.ntmps132
   go_wp2
   go_quiet (first | (go_at_call 134; exact hexDigit_q _ _ _ _ (by first | exact E2.out | exact E3.out)))
   go_wp2
   go_ret2
   exact ⟨by rw [H.out.1, H.out.2]; rfl, _, rfl⟩
  ·rcases hexI_cases c3 with ⟨e3, n3⟩ | ⟨n3, e3⟩
   ·have H : Hid (v = 0 ∧ m = 0) := hid (by rw [if_neg (fun e => n3 e.2)] at h; cases h; exact ⟨rfl, rfl⟩)
    obtain ⟨x, hx⟩ : ∃ x, hexV c2 = x := ⟨_, rfl⟩
    rw [hx] at e2
    have hx0 : ¬ (x : Int) < 0 := by omega
    have E2 := hid e2
    have E3 := hid e3
    clear h n2 e2 e3 n3 hx
    go_enter Tryz.func132, Tryz.ntmps132
    go_wp2
    go_quiet (first | (go_at_call 134; exact hexDigit_q _ _ _ _ (by first | exact E2.out | exact E3.out)))
    go_wp2
    go_ret2
    exact ⟨by rw [H.out.1, H.out.2]; rfl, _, rfl⟩
   ·rw [if_pos ⟨n2, n3⟩] at h
    obtain ⟨x, hx⟩ : ∃ x, hexV c2 = x := ⟨_, rfl⟩
    obtain ⟨y, hy⟩ : ∃ y, hexV c3 = y := ⟨_, rfl⟩
    rw [hx] at e2 n2
    rw [hy] at e3 n3
    rw [hx, hy] at h
    have H : Hid ((v.toNat : Int) = ((16 * x + y : Nat) : Int) ∧ m = 4) := hid (by cases h; refine ⟨?_, rfl⟩; rw [UInt8.toNat_ofNat']; omega)
    have hx0 : ¬ (x : Int) < 0 := by omega
    have hy0 : ¬ (y : Int) < 0 := by omega
    have w1 : IntKind.i64.wrap ((x : Int) * 16) = (x : Int) * 16 := IntWalk.i64_in _ (by omega)
    have w2 := or_hex n2 n3
    obtain ⟨z, hz⟩ : ∃ z : Nat, 16 * x + y = z := ⟨_, rfl⟩
    rw [hz] at w2 H
    have w3 : IntKind.u8.wrap (z : Int) = (z : Int) := wrap8 (by omega) (by omega)
    have E2 := hid e2
    have E3 := hid e3
    clear h e2 e3 hx hy hz
    go_enter Tryz.func132, Tryz.ntmps132
    go_wp2
    go_quiet (first | (go_at_call 134; exact hexDigit_q _ _ _ _ (by first | exact E2.out | exact E3.out)))
    go_wp2
    go_ret2
    exact ⟨by rw [H.out.1, H.out.2]; rfl, _, rfl⟩
end
end Go.Proofs.YtgdejjkiiaodkaaGreatDoor
