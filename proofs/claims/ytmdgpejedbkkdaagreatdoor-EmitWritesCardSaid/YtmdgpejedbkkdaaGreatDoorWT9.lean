/- QuoPlain, QuoHex, QuoEsc, QuoDen -/
import Derived.IntWalk
import Derived.Test.YtmdgpejedbkkdaaGreatDoorWT4
import Derived.Test.YtmdgpejedbkkdaaGreatDoorWT8
set_option linter.unusedVariables false
set_option linter.unusedSimpArgs false
set_option maxRecDepth 100000
set_option maxHeartbeats 16000000
open Go.Lib (hid)
namespace Go.Proofs.YtmdgpejedbkkdaaGreatDoor
section
open Go.RowKit
open Q6
theorem tells_plain : Tells3 41 plainF := ⟨enters_of Tryz.func41 (by kernel_rfl) rfl, plain1_any⟩
theorem tells_row : Tells3 156 rowF := ⟨enters_of Tryz.func156 (by kernel_rfl) rfl, row1_any⟩
theorem tells_good : Tells3 125 goodF := ⟨enters_of Tryz.func125 (by kernel_rfl) rfl, single1_any⟩
theorem bytes_of {s : ByteArray} {l : Array UInt8} (h : s.data.toList = l.toList) : s = ⟨l⟩ := by
 cases s; rename_i x; cases x; cases l; simp at h; simp [h]
theorem every_q (s : ByteArray) (g : Nat) (F : UInt8 → UInt8 → UInt8 → Bool) (b : Bool) (w : World) (hs : s.size ≤ maxLen) (T : Tells3 g F) (h : everyB F s.data.toList = b) :
  Calls Tryz.prog 40 #[.string s, .func (.func g) #[] #[]] w fun e w' => e = .returned (.bool b) ∧ w = w' := by
 subst h; exact every_any s g F w hs T
theorem Plain_any (s : ByteArray) (w : World) (hs : s.size ≤ maxLen) :
  Calls Tryz.prog 24 #[.string s] w fun e w' => e = .returned (.bool (plainB s.data.toList)) ∧ w = w' := by
 by_cases h0 : s.data.toList = []
 ·obtain rfl := bytes_of (l := #[]) h0
  have H : Hid (plainB (⟨#[]⟩ : ByteArray).data.toList = false) := hid rfl
  clear h0
  go_enter Tryz.func24, Tryz.ntmps24
  go_wp2
  go_ret
  exact ⟨ret_b H.out.symm, rfl⟩
 by_cases h1 : s.data.toList = [126]
 ·obtain rfl := bytes_of (l := #[126]) h1
  have H : Hid (plainB (⟨#[126]⟩ : ByteArray).data.toList = false) := hid rfl
  clear h0 h1
  go_enter Tryz.func24, Tryz.ntmps24
  go_wp2
  go_ret
  exact ⟨ret_b H.out.symm, rfl⟩
 by_cases h2 : s.data.toList = [110, 117, 108, 108]
 ·obtain rfl := bytes_of (l := #[110, 117, 108, 108]) h2
  have H : Hid (plainB (⟨#[110, 117, 108, 108]⟩ : ByteArray).data.toList = false) := hid rfl
  clear h0 h1 h2
  go_enter Tryz.func24, Tryz.ntmps24
  go_wp2
  go_ret
  exact ⟨ret_b H.out.symm, rfl⟩
 obtain ⟨b, hb⟩ : ∃ b, everyB plainF s.data.toList = b := ⟨_, rfl⟩
 have H : Hid (plainB s.data.toList = b) := hid (by
  unfold plainB bad3
  rw [decide_eq_false h0, decide_eq_false h1, decide_eq_false h2]; exact hb)
 have b0 : s.toList.isEmpty = false := by rw [ByteArray.toList_eq, List.isEmpty_eq_false_iff]; exact h0
 have b0' : ¬ s.toList = [] := by rw [ByteArray.toList_eq]; exact h0
 have b1 : (s.toList == [126]) = false := by rw [ByteArray.toList_eq]; exact beq_eq_false_iff_ne.2 h1
 have b2 : (s.toList == [110, 117, 108, 108]) = false := by rw [ByteArray.toList_eq]; exact beq_eq_false_iff_ne.2 h2
 have HB := hid hb
 clear h0 h1 h2 hb
 go_enter Tryz.func24, Tryz.ntmps24
 go_wp2_with (go_at_call 40; refine (every_q _ _ plainF b _ hs tells_plain HB.out).mono ?_; rintro e w' ⟨rfl, rfl⟩)
 go_ret
 exact ⟨ret_b H.out.symm, rfl⟩
theorem Plain_q (s : ByteArray) (b : Bool) (w : World) (hs : s.size ≤ maxLen) (h : plainB s.data.toList = b) :
  Calls Tryz.prog 24 #[.string s] w fun e w' => e = .returned (.bool b) ∧ w = w' := by
 subst h; exact Plain_any s w hs
theorem Row_any (s : ByteArray) (w : World) (hs : s.size ≤ maxLen) :
  Calls Tryz.prog 143 #[.string s] w fun e w' => e = .returned (.bool (rowB s.data.toList)) ∧ w = w' := by
 rcases Bool.eq_false_or_eq_true (plainB s.data.toList) with hp | hp
 ·obtain ⟨b, hb⟩ : ∃ b, everyB rowF s.data.toList = b := ⟨_, rfl⟩
  have H : Hid (rowB s.data.toList = b) := hid (by unfold rowB; rw [hp, hb]; rfl)
  have HP := hid hp
  have HB := hid hb
  clear hp hb
  go_enter Tryz.func143, Tryz.ntmps143
  go_wp2_with (first | (go_at_call 24; refine (Plain_q _ true _ hs HP.out).mono ?_; rintro e w' ⟨rfl, rfl⟩) | (go_at_call 40; refine (every_q _ _ rowF b _ hs tells_row HB.out).mono ?_; rintro e w' ⟨rfl, rfl⟩))
  go_ret
  exact ⟨ret_b H.out.symm, rfl⟩
 ·have H : Hid (rowB s.data.toList = false) := hid (by unfold rowB; rw [hp]; rfl)
  have HP := hid hp
  clear hp
  go_enter Tryz.func143, Tryz.ntmps143
  go_wp2_with (first | (go_at_call 24; refine (Plain_q _ false _ hs HP.out).mono ?_; rintro e w' ⟨rfl, rfl⟩))
  go_ret
  exact ⟨ret_b H.out.symm, rfl⟩
theorem Row_q (s : ByteArray) (b : Bool) (w : World) (hs : s.size ≤ maxLen) (h : rowB s.data.toList = b) :
  Calls Tryz.prog 143 #[.string s] w fun e w' => e = .returned (.bool b) ∧ w = w' := by
 subst h; exact Row_any s w hs
end
section
open Go.RowKit
open Q6
def hexI (c : UInt8) : Int := if hexV c < 16 then (hexV c : Int) else -1
theorem wrap8 {n : Int} (h1 : 0 ≤ n) (h2 : n ≤ 255) : IntKind.u8.wrap n = n := by simp [IntKind.wrap, IntKind.bits, IntKind.signed]; omega
theorem hexDigit_any (c : UInt8) (w : World) : Calls Tryz.prog 170 #[.int .u8 c.toNat] w fun e w' => e = .returned (.int .i64 (hexI c)) ∧ w = w' := by
 have hc := c.toNat_lt
 obtain ⟨m, hm⟩ : ∃ m, c.toNat = m := ⟨_, rfl⟩
 have HV : Hid (hexI c = if 48 ≤ m ∧ m ≤ 57 then ((m - 48 : Nat) : Int) else if 97 ≤ m ∧ m ≤ 102 then ((m - 87 : Nat) : Int) else if 65 ≤ m ∧ m ≤ 70 then ((m - 55 : Nat) : Int) else -1) := hid (by
  unfold hexI hexV
  rw [hm]
  by_cases a1 : 48 ≤ m ∧ m ≤ 57
  ·rw [if_pos a1, if_pos a1, if_pos (by omega)]
  ·rw [if_neg a1, if_neg a1]
   by_cases a2 : 97 ≤ m ∧ m ≤ 102
   ·rw [if_pos a2, if_pos a2, if_pos (by omega)]
   ·rw [if_neg a2, if_neg a2]
    by_cases a3 : 65 ≤ m ∧ m ≤ 70
    ·rw [if_pos a3, if_pos a3, if_pos (by omega)]
    ·rw [if_neg a3, if_neg a3]; rfl)
 rw [hm] at hc ⊢
 clear hm
 by_cases h0 : m < 48
 ·rw [if_neg (by omega), if_neg (by omega), if_neg (by omega)] at HV
  have a1 : ¬ (48 : Int) ≤ (m : Int) := by omega
  have a2 : ¬ (97 : Int) ≤ (m : Int) := by omega
  have a3 : ¬ (65 : Int) ≤ (m : Int) := by omega
  go_enter Tryz.func170, Tryz.ntmps170
  go_wp2
  go_ret
  exact ⟨ret_int HV.out.symm, rfl⟩
 have a1 : (48 : Int) ≤ (m : Int) := by omega
 by_cases h1 : m ≤ 57
 ·rw [if_pos ⟨by omega, h1⟩] at HV
  have b1 : (m : Int) ≤ 57 := by omega
  have w1 : IntKind.u8.wrap ((m : Int) - 48) = (m : Int) - 48 := wrap8 (by omega) (by omega)
  go_enter Tryz.func170, Tryz.ntmps170
  go_wp2
  go_ret
  exact ⟨ret_int (by rw [HV.out]; omega), rfl⟩
 have b1 : ¬ (m : Int) ≤ 57 := by omega
 by_cases h2 : m < 65
 ·rw [if_neg (by omega), if_neg (by omega), if_neg (by omega)] at HV
  have a2 : ¬ (97 : Int) ≤ (m : Int) := by omega
  have a3 : ¬ (65 : Int) ≤ (m : Int) := by omega
  go_enter Tryz.func170, Tryz.ntmps170
  go_wp2
  go_ret
  exact ⟨ret_int HV.out.symm, rfl⟩
 have a3 : (65 : Int) ≤ (m : Int) := by omega
 by_cases h3 : m ≤ 70
 ·rw [if_neg (by omega), if_neg (by omega), if_pos (by omega)] at HV
  have a2 : ¬ (97 : Int) ≤ (m : Int) := by omega
  have b3 : (m : Int) ≤ 70 := by omega
  have w1 : IntKind.u8.wrap ((m : Int) - 65) = (m : Int) - 65 := wrap8 (by omega) (by omega)
  go_enter Tryz.func170, Tryz.ntmps170
  go_wp2
  go_ret
  exact ⟨ret_int (by rw [HV.out]; omega), rfl⟩
 have b3 : ¬ (m : Int) ≤ 70 := by omega
 by_cases h4 : m < 97
 ·rw [if_neg (by omega), if_neg (by omega), if_neg (by omega)] at HV
  have a2 : ¬ (97 : Int) ≤ (m : Int) := by omega
  go_enter Tryz.func170, Tryz.ntmps170
  go_wp2
  go_ret
  exact ⟨ret_int HV.out.symm, rfl⟩
 have a2 : (97 : Int) ≤ (m : Int) := by omega
 by_cases h5 : m ≤ 102
 ·rw [if_neg (by omega), if_pos (by omega)] at HV
  have b2 : (m : Int) ≤ 102 := by omega
  have w1 : IntKind.u8.wrap ((m : Int) - 97) = (m : Int) - 97 := wrap8 (by omega) (by omega)
  go_enter Tryz.func170, Tryz.ntmps170
  go_wp2
  go_ret
  exact ⟨ret_int (by rw [HV.out]; omega), rfl⟩
 ·rw [if_neg (by omega), if_neg (by omega), if_neg (by omega)] at HV
  have b2 : ¬ (m : Int) ≤ 102 := by omega
  go_enter Tryz.func170, Tryz.ntmps170
  go_wp2
  go_ret
  exact ⟨ret_int HV.out.symm, rfl⟩
end
section
open Go.RowKit
open Q6
theorem or_dec : ∀ h l : Fin 16, bits .or .i64 (((h.val * 16 : Nat)) : Int) (l.val : Int) = ((16 * h.val + l.val : Nat) : Int) := by decide +kernel
theorem or_hex {h l : Nat} (hh : h < 16) (hl : l < 16) : bits .or .i64 ((h : Int) * 16) (l : Int) = ((16 * h + l : Nat) : Int) := by
 have e : ((h : Int) * 16) = ((h * 16 : Nat) : Int) := by omega
 rw [e]
 exact or_dec ⟨h, hh⟩ ⟨l, hl⟩
theorem hexDigit_q (c : UInt8) (x : Int) (w : World) (m : Nat) (h : hexI c = x) :
  Calls Tryz.prog 170 #[.int .u8 c.toNat] (w.drewN m) fun e w'' => e = .returned (.int .i64 x) ∧ ∃ m', w'' = w.drewN m' := by
 subst h
 exact Calls.quiet_of_same ((hexDigit_any c _).mono fun e w' ⟨h1, h2⟩ => ⟨h1, h2.symm⟩)
theorem get2 {s : ByteArray} {k : Nat} (h : k < s.size) : s.data.toList.drop k = s[k] :: s.data.toList.drop (k + 1) := by
 rw [List.drop_eq_getElem_cons (by rw [len_eq]; exact h)]; rfl
theorem hexI_cases (c : UInt8) : (hexI c = -1 ∧ ¬ hexV c < 16) ∨ (hexV c < 16 ∧ hexI c = (hexV c : Int)) := by
 unfold hexI
 by_cases h : hexV c < 16
 ·rw [if_pos h]; exact .inr ⟨h, rfl⟩
 ·rw [if_neg h]; exact .inl ⟨rfl, h⟩
theorem hexEscape_any (s : ByteArray) (v : UInt8) (m : Nat) (w : World) (hs : s.size ≤ maxLen) (h : denX (s.data.toList.drop 2) = (v, m)) :
  Calls Tryz.prog 160 #[.string s] w fun e w' => e = .returned (.tuple #[.int .u8 v.toNat, .int .i64 m]) ∧ ∃ q, w' = w.drewN q := by
 unfold maxLen at hs
 by_cases h4 : s.size < 4
 ·have h4' : (s.size : Int) < 4 := by omega
  have H : Hid (v = 0 ∧ m = 0) := hid (by
   have hl : (s.data.toList.drop 2).length < 2 := by rw [List.length_drop, len_eq]; omega
   generalize s.data.toList.drop 2 = d at h hl
   match d, hl, h with
   | [], _, h => cases h; exact ⟨rfl, rfl⟩
   | [a], _, h => cases h; exact ⟨rfl, rfl⟩)
  clear h
  go_enter Tryz.func160, Tryz.ntmps160
  go_wp2
  go_ret2
  exact ⟨by rw [H.out.1, H.out.2]; rfl, 0, rfl⟩
 ·have h4' : ¬ (s.size : Int) < 4 := by omega
  have i2 : 2 < s.size := by omega
  have i3 : 3 < s.size := by omega
  have i2z : (2 : Int) < (s.size : Int) := by omega
  have i3z : (3 : Int) < (s.size : Int) := by omega
  rw [get2 i2, get2 i3, denX_two] at h
  obtain ⟨c2, hc2⟩ : ∃ c, s[2] = c := ⟨_, rfl⟩
  obtain ⟨c3, hc3⟩ : ∃ c, s[3] = c := ⟨_, rfl⟩
  rw [hc2, hc3] at h
  rcases hexI_cases c2 with ⟨e2, n2⟩ | ⟨n2, e2⟩
  ·have H : Hid (v = 0 ∧ m = 0) := hid (by rw [if_neg (fun e => n2 e.1)] at h; cases h; exact ⟨rfl, rfl⟩)
   obtain ⟨x, e3⟩ : ∃ x, hexI c3 = x := ⟨_, rfl⟩
   have E2 := hid e2
   have E3 := hid e3
   clear h n2 e2 e3
   go_enter Tryz.func160, Tryz.ntmps160
   go_wp2
   go_quiet (first | (go_at_call 170; exact hexDigit_q _ _ _ _ (by first | exact E2.out | exact E3.out)))
   go_wp2
   go_ret2
   exact ⟨by rw [H.out.1, H.out.2]; rfl, _, rfl⟩
  ·rcases hexI_cases c3 with ⟨e3, n3⟩ | ⟨n3, e3⟩
   ·have H : Hid (v = 0 ∧ m = 0) := hid (by rw [if_neg (fun e => n3 e.2)] at h; cases h; exact ⟨rfl, rfl⟩)
    obtain ⟨x, hx⟩ : ∃ x, hexV c2 = x := ⟨_, rfl⟩
    rw [hx] at e2
    have hx0 : ¬ (x : Int) < 0 := by omega
    have E2 := hid e2
    have E3 := hid e3
    clear h n2 e2 e3 n3 hx
    go_enter Tryz.func160, Tryz.ntmps160
    go_wp2
    go_quiet (first | (go_at_call 170; exact hexDigit_q _ _ _ _ (by first | exact E2.out | exact E3.out)))
    go_wp2
    go_ret2
    exact ⟨by rw [H.out.1, H.out.2]; rfl, _, rfl⟩
   ·rw [if_pos ⟨n2, n3⟩] at h
    obtain ⟨x, hx⟩ : ∃ x, hexV c2 = x := ⟨_, rfl⟩
    obtain ⟨y, hy⟩ : ∃ y, hexV c3 = y := ⟨_, rfl⟩
    rw [hx] at e2 n2
    rw [hy] at e3 n3
    rw [hx, hy] at h
    have H : Hid ((v.toNat : Int) = ((16 * x + y : Nat) : Int) ∧ m = 4) := hid (by cases h; refine ⟨?_, rfl⟩; rw [UInt8.toNat_ofNat']; omega)
    have hx0 : ¬ (x : Int) < 0 := by omega
    have hy0 : ¬ (y : Int) < 0 := by omega
    have w1 : IntKind.i64.wrap ((x : Int) * 16) = (x : Int) * 16 := IntWalk.i64_in _ (by omega)
    have w2 := or_hex n2 n3
    obtain ⟨z, hz⟩ : ∃ z : Nat, 16 * x + y = z := ⟨_, rfl⟩
    rw [hz] at w2 H
    have w3 : IntKind.u8.wrap (z : Int) = (z : Int) := wrap8 (by omega) (by omega)
    have E2 := hid e2
    have E3 := hid e3
    clear h e2 e3 hx hy hz
    go_enter Tryz.func160, Tryz.ntmps160
    go_wp2
    go_quiet (first | (go_at_call 170; exact hexDigit_q _ _ _ _ (by first | exact E2.out | exact E3.out)))
    go_wp2
    go_ret2
    exact ⟨by rw [H.out.1, H.out.2]; rfl, _, rfl⟩
end
section
open Go.RowKit
open Q6
theorem esc_92 (s : ByteArray) (c : UInt8) (w : World) (hs : s.size ≤ maxLen) (h2 : 2 ≤ s.size) (hc : s[1] = c) (hc92 : isC 92 c = true) (hc34 : isC 34 c = false) (hc110 : isC 110 c = false) (hc116 : isC 116 c = false) (hc120 : isC 120 c = false) :
  Calls Tryz.prog 147 #[.string s] w fun e w' => e = .returned (.tuple #[.int .u8 c.toNat, .int .i64 2]) ∧ ∃ q, w' = w.drewN q := by
 have hs' := hs
 unfold maxLen at hs'
 have h2z : ¬ (s.size : Int) < 2 := by omega
 have h1 : 1 < s.size := by omega
 have h1z : (1 : Int) < (s.size : Int) := by omega
 have m92 : ((c.toNat : Int) == 92) = true := (isC_beq 92 c 92 rfl).trans hc92
 have m34 : ((c.toNat : Int) == 34) = false := (isC_beq 34 c 34 rfl).trans hc34
 have m110 : ((c.toNat : Int) == 110) = false := (isC_beq 110 c 110 rfl).trans hc110
 have m116 : ((c.toNat : Int) == 116) = false := (isC_beq 116 c 116 rfl).trans hc116
 have m120 : ((c.toNat : Int) == 120) = false := (isC_beq 120 c 120 rfl).trans hc120
 clear hc92 hc34 hc110 hc116 hc120
 go_enter Tryz.func147, Tryz.ntmps147
 go_wp2
 go_ret2
 exact ⟨rfl, 0, rfl⟩
theorem esc_34 (s : ByteArray) (c : UInt8) (w : World) (hs : s.size ≤ maxLen) (h2 : 2 ≤ s.size) (hc : s[1] = c) (hc92 : isC 92 c = false) (hc34 : isC 34 c = true) (hc110 : isC 110 c = false) (hc116 : isC 116 c = false) (hc120 : isC 120 c = false) :
  Calls Tryz.prog 147 #[.string s] w fun e w' => e = .returned (.tuple #[.int .u8 c.toNat, .int .i64 2]) ∧ ∃ q, w' = w.drewN q := by
 have hs' := hs
 unfold maxLen at hs'
 have h2z : ¬ (s.size : Int) < 2 := by omega
 have h1 : 1 < s.size := by omega
 have h1z : (1 : Int) < (s.size : Int) := by omega
 have m92 : ((c.toNat : Int) == 92) = false := (isC_beq 92 c 92 rfl).trans hc92
 have m34 : ((c.toNat : Int) == 34) = true := (isC_beq 34 c 34 rfl).trans hc34
 have m110 : ((c.toNat : Int) == 110) = false := (isC_beq 110 c 110 rfl).trans hc110
 have m116 : ((c.toNat : Int) == 116) = false := (isC_beq 116 c 116 rfl).trans hc116
 have m120 : ((c.toNat : Int) == 120) = false := (isC_beq 120 c 120 rfl).trans hc120
 clear hc92 hc34 hc110 hc116 hc120
 go_enter Tryz.func147, Tryz.ntmps147
 go_wp2
 go_ret2
 exact ⟨rfl, 0, rfl⟩
theorem esc_110 (s : ByteArray) (c : UInt8) (w : World) (hs : s.size ≤ maxLen) (h2 : 2 ≤ s.size) (hc : s[1] = c) (hc92 : isC 92 c = false) (hc34 : isC 34 c = false) (hc110 : isC 110 c = true) (hc116 : isC 116 c = false) (hc120 : isC 120 c = false) :
  Calls Tryz.prog 147 #[.string s] w fun e w' => e = .returned (.tuple #[.int .u8 10, .int .i64 2]) ∧ ∃ q, w' = w.drewN q := by
 have hs' := hs
 unfold maxLen at hs'
 have h2z : ¬ (s.size : Int) < 2 := by omega
 have h1 : 1 < s.size := by omega
 have h1z : (1 : Int) < (s.size : Int) := by omega
 have m92 : ((c.toNat : Int) == 92) = false := (isC_beq 92 c 92 rfl).trans hc92
 have m34 : ((c.toNat : Int) == 34) = false := (isC_beq 34 c 34 rfl).trans hc34
 have m110 : ((c.toNat : Int) == 110) = true := (isC_beq 110 c 110 rfl).trans hc110
 have m116 : ((c.toNat : Int) == 116) = false := (isC_beq 116 c 116 rfl).trans hc116
 have m120 : ((c.toNat : Int) == 120) = false := (isC_beq 120 c 120 rfl).trans hc120
 clear hc92 hc34 hc110 hc116 hc120
 go_enter Tryz.func147, Tryz.ntmps147
 go_wp2
 go_ret2
 exact ⟨rfl, 0, rfl⟩
theorem esc_116 (s : ByteArray) (c : UInt8) (w : World) (hs : s.size ≤ maxLen) (h2 : 2 ≤ s.size) (hc : s[1] = c) (hc92 : isC 92 c = false) (hc34 : isC 34 c = false) (hc110 : isC 110 c = false) (hc116 : isC 116 c = true) (hc120 : isC 120 c = false) :
  Calls Tryz.prog 147 #[.string s] w fun e w' => e = .returned (.tuple #[.int .u8 9, .int .i64 2]) ∧ ∃ q, w' = w.drewN q := by
 have hs' := hs
 unfold maxLen at hs'
 have h2z : ¬ (s.size : Int) < 2 := by omega
 have h1 : 1 < s.size := by omega
 have h1z : (1 : Int) < (s.size : Int) := by omega
 have m92 : ((c.toNat : Int) == 92) = false := (isC_beq 92 c 92 rfl).trans hc92
 have m34 : ((c.toNat : Int) == 34) = false := (isC_beq 34 c 34 rfl).trans hc34
 have m110 : ((c.toNat : Int) == 110) = false := (isC_beq 110 c 110 rfl).trans hc110
 have m116 : ((c.toNat : Int) == 116) = true := (isC_beq 116 c 116 rfl).trans hc116
 have m120 : ((c.toNat : Int) == 120) = false := (isC_beq 120 c 120 rfl).trans hc120
 clear hc92 hc34 hc110 hc116 hc120
 go_enter Tryz.func147, Tryz.ntmps147
 go_wp2
 go_ret2
 exact ⟨rfl, 0, rfl⟩
theorem esc_120 (s : ByteArray) (c : UInt8) (w : World) (hs : s.size ≤ maxLen) (h2 : 2 ≤ s.size) (hc : s[1] = c) (v : UInt8) (m : Nat) (hX : denX (s.data.toList.drop 2) = (v, m)) (hc92 : isC 92 c = false) (hc34 : isC 34 c = false) (hc110 : isC 110 c = false) (hc116 : isC 116 c = false) (hc120 : isC 120 c = true) :
  Calls Tryz.prog 147 #[.string s] w fun e w' => e = .returned (.tuple #[.int .u8 v.toNat, .int .i64 m]) ∧ ∃ q, w' = w.drewN q := by
 have HX := hid hX
 clear hX
 have hs' := hs
 unfold maxLen at hs'
 have h2z : ¬ (s.size : Int) < 2 := by omega
 have h1 : 1 < s.size := by omega
 have h1z : (1 : Int) < (s.size : Int) := by omega
 have m92 : ((c.toNat : Int) == 92) = false := (isC_beq 92 c 92 rfl).trans hc92
 have m34 : ((c.toNat : Int) == 34) = false := (isC_beq 34 c 34 rfl).trans hc34
 have m110 : ((c.toNat : Int) == 110) = false := (isC_beq 110 c 110 rfl).trans hc110
 have m116 : ((c.toNat : Int) == 116) = false := (isC_beq 116 c 116 rfl).trans hc116
 have m120 : ((c.toNat : Int) == 120) = true := (isC_beq 120 c 120 rfl).trans hc120
 clear hc92 hc34 hc110 hc116 hc120
 go_enter Tryz.func147, Tryz.ntmps147
 go_wp2_with (go_at_call 160; refine (hexEscape_any _ v m _ hs HX.out).mono ?_; rintro e w' ⟨rfl, q, rfl⟩)
 go_ret2
 exact ⟨rfl, _, rfl⟩
theorem esc_no (s : ByteArray) (c : UInt8) (w : World) (hs : s.size ≤ maxLen) (h2 : 2 ≤ s.size) (hc : s[1] = c) (hc92 : isC 92 c = false) (hc34 : isC 34 c = false) (hc110 : isC 110 c = false) (hc116 : isC 116 c = false) (hc120 : isC 120 c = false) :
  Calls Tryz.prog 147 #[.string s] w fun e w' => e = .returned (.tuple #[.int .u8 0, .int .i64 0]) ∧ ∃ q, w' = w.drewN q := by
 have hs' := hs
 unfold maxLen at hs'
 have h2z : ¬ (s.size : Int) < 2 := by omega
 have h1 : 1 < s.size := by omega
 have h1z : (1 : Int) < (s.size : Int) := by omega
 have m92 : ((c.toNat : Int) == 92) = false := (isC_beq 92 c 92 rfl).trans hc92
 have m34 : ((c.toNat : Int) == 34) = false := (isC_beq 34 c 34 rfl).trans hc34
 have m110 : ((c.toNat : Int) == 110) = false := (isC_beq 110 c 110 rfl).trans hc110
 have m116 : ((c.toNat : Int) == 116) = false := (isC_beq 116 c 116 rfl).trans hc116
 have m120 : ((c.toNat : Int) == 120) = false := (isC_beq 120 c 120 rfl).trans hc120
 clear hc92 hc34 hc110 hc116 hc120
 go_enter Tryz.func147, Tryz.ntmps147
 go_wp2
 go_ret2
 exact ⟨rfl, 0, rfl⟩
theorem escape_any (s : ByteArray) (v : UInt8) (m : Nat) (w : World) (hs : s.size ≤ maxLen) (h0 : 1 ≤ s.size) (h : denB (s.data.toList.drop 1) = (v, m)) :
  Calls Tryz.prog 147 #[.string s] w fun e w' => e = .returned (.tuple #[.int .u8 v.toNat, .int .i64 m]) ∧ ∃ q, w' = w.drewN q := by
 by_cases h2 : s.size < 2
 ·have H : Hid (v = 0 ∧ m = 0) := hid (by
   have hl : s.data.toList.drop 1 = [] := List.drop_of_length_le (by rw [len_eq]; omega)
   rw [hl] at h
   cases h; exact ⟨rfl, rfl⟩)
  have h2z : (s.size : Int) < 2 := by omega
  clear h
  go_enter Tryz.func147, Tryz.ntmps147
  go_wp2
  go_ret2
  exact ⟨by rw [H.out.1, H.out.2]; rfl, 0, rfl⟩
 ·have h1 : 1 < s.size := by omega
  rw [get2 h1, denB_cons] at h
  obtain ⟨c, hc⟩ : ∃ c, s[1] = c := ⟨_, rfl⟩
  rw [hc] at h
  by_cases hc92 : isC 92 c = true
  ·have hc34 := isC_ne hc92 (show (92 : UInt8) ≠ 34 by decide); have hc110 := isC_ne hc92 (show (92 : UInt8) ≠ 110 by decide); have hc116 := isC_ne hc92 (show (92 : UInt8) ≠ 116 by decide); have hc120 := isC_ne hc92 (show (92 : UInt8) ≠ 120 by decide); have e := isC_iff.1 hc92
   rw [if_pos (.inl e)] at h
   have ev : v = c ∧ m = 2 := by cases h; exact ⟨rfl, rfl⟩
   rw [ev.1, ev.2]
   exact esc_92 s c w hs (by omega) hc hc92 hc34 hc110 hc116 hc120
  ·have n92 : c ≠ 92 := fun e => hc92 (isC_iff.2 e)
   have hc92 := Bool.eq_false_iff.2 hc92
   by_cases hc34 : isC 34 c = true
   ·have hc110 := isC_ne hc34 (show (34 : UInt8) ≠ 110 by decide); have hc116 := isC_ne hc34 (show (34 : UInt8) ≠ 116 by decide); have hc120 := isC_ne hc34 (show (34 : UInt8) ≠ 120 by decide); have e := isC_iff.1 hc34
    rw [if_pos (.inr e)] at h
    have ev : v = c ∧ m = 2 := by cases h; exact ⟨rfl, rfl⟩
    rw [ev.1, ev.2]
    exact esc_34 s c w hs (by omega) hc hc92 hc34 hc110 hc116 hc120
   ·have n34 : c ≠ 34 := fun e => hc34 (isC_iff.2 e)
    have hc34 := Bool.eq_false_iff.2 hc34
    have nn : ¬ (c = 92 ∨ c = 34) := fun e => e.elim n92 n34
    by_cases hc110 : isC 110 c = true
    ·have hc116 := isC_ne hc110 (show (110 : UInt8) ≠ 116 by decide); have hc120 := isC_ne hc110 (show (110 : UInt8) ≠ 120 by decide); have e := isC_iff.1 hc110
     rw [if_neg nn, if_pos e] at h; cases h
     exact esc_110 s c w hs (by omega) hc hc92 hc34 hc110 hc116 hc120
    ·have n110 : c ≠ 110 := fun e => hc110 (isC_iff.2 e)
     have hc110 := Bool.eq_false_iff.2 hc110
     by_cases hc116 : isC 116 c = true
     ·have hc120 := isC_ne hc116 (show (116 : UInt8) ≠ 120 by decide); have e := isC_iff.1 hc116
      rw [if_neg nn, if_neg n110, if_pos e] at h; cases h
      exact esc_116 s c w hs (by omega) hc hc92 hc34 hc110 hc116 hc120
     ·have n116 : c ≠ 116 := fun e => hc116 (isC_iff.2 e)
      have hc116 := Bool.eq_false_iff.2 hc116
      by_cases hc120 : isC 120 c = true
      ·have e := isC_iff.1 hc120
       rw [if_neg nn, if_neg n110, if_neg n116, if_pos e] at h
       exact esc_120 s c w hs (by omega) hc v m h hc92 hc34 hc110 hc116 hc120
      ·have n120 : c ≠ 120 := fun e => hc120 (isC_iff.2 e)
       have hc120 := Bool.eq_false_iff.2 hc120
       rw [if_neg nn, if_neg n110, if_neg n116, if_neg n120] at h; cases h
       exact esc_no s c w hs (by omega) hc hc92 hc34 hc110 hc116 hc120
theorem denoted_any (s : ByteArray) (v : UInt8) (m : Nat) (w : World) (hs : s.size ≤ maxLen) (h0 : 1 ≤ s.size) (h : den s.data.toList = (v, m)) :
  Calls Tryz.prog 137 #[.string s] w fun e w' => e = .returned (.tuple #[.int .u8 v.toNat, .int .i64 m]) ∧ ∃ q, w' = w.drewN q := by
 have hp : 0 < s.size := by omega
 have hl := get2 hp
 rw [List.drop_zero] at hl
 rw [hl, den_cons] at h
 obtain ⟨c, hc⟩ : ∃ c, s[0] = c := ⟨_, rfl⟩
 rw [hc] at h
 clear hl
 have hpz : (0 : Int) < (s.size : Int) := by omega
 by_cases hc92 : isC 92 c = true
 ·have m92 : ((c.toNat : Int) == 92) = true := (isC_beq 92 c 92 rfl).trans hc92
  rw [if_pos (isC_iff.1 hc92)] at h
  have HB := hid h
  clear h hc92
  go_enter Tryz.func137, Tryz.ntmps137
  go_wp2_with (go_at_call 147; refine (escape_any _ v m _ hs h0 HB.out).mono ?_; rintro e w' ⟨rfl, q, rfl⟩)
  go_ret2
  exact ⟨rfl, _, rfl⟩
 ·have m92 : ((c.toNat : Int) == 92) = false := (isC_beq 92 c 92 rfl).trans (Bool.eq_false_iff.2 hc92)
  rw [if_neg (fun e => hc92 (isC_iff.2 e))] at h
  rcases Bool.eq_false_or_eq_true (good c) with hg | hg
  ·rw [if_pos hg] at h
   have H : Hid (v = c ∧ m = 1) := hid (by cases h; exact ⟨rfl, rfl⟩)
   have hcall := printable_any c
   rw [hg] at hcall
   clear h hc92 hg
   go_enter Tryz.func137, Tryz.ntmps137
   go_wp2_with (go_at_call 43; refine (hcall _).mono ?_; rintro e w' ⟨rfl, rfl⟩)
   go_ret2
   exact ⟨by rw [H.out.1, H.out.2]; rfl, 0, rfl⟩
  ·rw [if_neg (by rw [hg]; decide)] at h
   have H : Hid (v = 0 ∧ m = 0) := hid (by cases h; exact ⟨rfl, rfl⟩)
   have hcall := printable_any c
   rw [hg] at hcall
   clear h hc92 hg
   go_enter Tryz.func137, Tryz.ntmps137
   go_wp2_with (go_at_call 43; refine (hcall _).mono ?_; rintro e w' ⟨rfl, rfl⟩)
   go_ret2
   exact ⟨by rw [H.out.1, H.out.2]; rfl, 0, rfl⟩
end
end Go.Proofs.YtmdgpejedbkkdaaGreatDoor
