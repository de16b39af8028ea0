/- QuoDen -/
import Derived.Test.YtgdejjkiiaodkaaGreatDoorPT17
set_option linter.unusedVariables false
set_option linter.unusedSimpArgs false
set_option maxRecDepth 100000
set_option maxHeartbeats 16000000
open Go.Lib (hid)
namespace Go.Proofs.YtgdejjkiiaodkaaGreatDoor
section
open Go.RowKit
open Q6
theorem esc_92 (s : ByteArray) (c : UInt8) (w : World) (hs : s.size ≤ maxLen) (h2 : 2 ≤ s.size) (hc : s[1] = c) (hc92 : isC 92 c = true) (hc34 : isC 34 c = false) (hc110 : isC 110 c = false) (hc116 : isC 116 c = false) (hc120 : isC 120 c = false) :
  Calls Tryz.prog 127 #[.string s] w fun e w' => e = .returned (.tuple #[.int .u8 c.toNat, .int .i64 2]) ∧ ∃ q, w' = w.drewN q := by
 have hs' := hs
 unfold maxLen at hs'
 have h2z : ¬ (s.size : Int) < 2 := by omega
 have h1 : 1 < s.size := by omega
 have h1z : (1 : Int) < (s.size : Int) := by omega
 have m92 : ((c.toNat : Int) == 92) = true := (isC_beq 92 c 92 rfl).trans hc92
 have m34 : ((c.toNat : Int) == 34) = false := (isC_beq 34 c 34 rfl).trans hc34
 have m110 : ((c.toNat : Int) == 110) = false := (isC_beq 110 c 110 rfl).trans hc110
 have m116 : ((c.toNat : Int) == 116) = false := (isC_beq 116 c 116 rfl).trans hc116
 have m120 : ((c.toNat : Int) == 120) = false := (isC_beq 120 c 120 rfl).trans hc120
 clear hc92 hc34 hc110 hc116 hc120
 go_enter Tryz.func127, Tryz.ntmps127
 go_wp2
 go_ret2
 exact ⟨rfl, 0, rfl⟩
theorem esc_34 (s : ByteArray) (c : UInt8) (w : World) (hs : s.size ≤ maxLen) (h2 : 2 ≤ s.size) (hc : s[1] = c) (hc92 : isC 92 c = false) (hc34 : isC 34 c = true) (hc110 : isC 110 c = false) (hc116 : isC 116 c = false) (hc120 : isC 120 c = false) :
  Calls Tryz.prog 127 #[.string s] w fun e w' => e = .returned (.tuple #[.int .u8 c.toNat, .int .i64 2]) ∧ ∃ q, w' = w.drewN q := by
 have hs' := hs
 unfold maxLen at hs'
 have h2z : ¬ (s.size : Int) < 2 := by omega
 have h1 : 1 < s.size := by omega
 have h1z : (1 : Int) < (s.size : Int) := by omega
 have m92 : ((c.toNat : Int) == 92) = false := (isC_beq 92 c 92 rfl).trans hc92
 have m34 : ((c.toNat : Int) == 34) = true := (isC_beq 34 c 34 rfl).trans hc34
 have m110 : ((c.toNat : Int) == 110) = false := (isC_beq 110 c 110 rfl).trans hc110
 have m116 : ((c.toNat : Int) == 116) = false := (isC_beq 116 c 116 rfl).trans hc116
 have m120 : ((c.toNat : Int) == 120) = false := (isC_beq 120 c 120 rfl).trans hc120
 clear hc92 hc34 hc110 hc116 hc120
 go_enter Tryz.func127, Tryz.ntmps127
 go_wp2
 go_ret2
 exact ⟨rfl, 0, rfl⟩
theorem esc_110 (s : ByteArray) (c : UInt8) (w : World) (hs : s.size ≤ maxLen) (h2 : 2 ≤ s.size) (hc : s[1] = c) (hc92 : isC 92 c = false) (hc34 : isC 34 c = false) (hc110 : isC 110 c = true) (hc116 : isC 116 c = false) (hc120 : isC 120 c = false) :
  Calls Tryz.prog 127 #[.string s] w fun e w' => e = .returned (.tuple #[.int .u8 10, .int .i64 2]) ∧ ∃ q, w' = w.drewN q := by
 have hs' := hs
 unfold maxLen at hs'
 have h2z : ¬ (s.size : Int) < 2 := by omega
 have h1 : 1 < s.size := by omega
 have h1z : (1 : Int) < (s.size : Int) := by omega
 have m92 : ((c.toNat : Int) == 92) = false := (isC_beq 92 c 92 rfl).trans hc92
 have m34 : ((c.toNat : Int) == 34) = false := (isC_beq 34 c 34 rfl).trans hc34
 have m110 : ((c.toNat : Int) == 110) = true := (isC_beq 110 c 110 rfl).trans hc110
 have m116 : ((c.toNat : Int) == 116) = false := (isC_beq 116 c 116 rfl).trans hc116
 have m120 : ((c.toNat : Int) == 120) = false := (isC_beq 120 c 120 rfl).trans hc120
 clear hc92 hc34 hc110 hc116 hc120
 go_enter Tryz.func127, Tryz.ntmps127
 go_wp2
 go_ret2
 exact ⟨rfl, 0, rfl⟩
theorem esc_116 (s : ByteArray) (c : UInt8) (w : World) (hs : s.size ≤ maxLen) (h2 : 2 ≤ s.size) (hc : s[1] = c) (hc92 : isC 92 c = false) (hc34 : isC 34 c = false) (hc110 : isC 110 c = false) (hc116 : isC 116 c = true) (hc120 : isC 120 c = false) :
  Calls Tryz.prog 127 #[.string s] w fun e w' => e = .returned (.tuple #[.int .u8 9, .int .i64 2]) ∧ ∃ q, w' = w.drewN q := by
 have hs' := hs
 unfold maxLen at hs'
 have h2z : ¬ (s.size : Int) < 2 := by omega
 have h1 : 1 < s.size := by omega
 have h1z : (1 : Int) < (s.size : Int) := by omega
 have m92 : ((c.toNat : Int) == 92) = false := (isC_beq 92 c 92 rfl).trans hc92
 have m34 : ((c.toNat : Int) == 34) = false := (isC_beq 34 c 34 rfl).trans hc34
 have m110 : ((c.toNat : Int) == 110) = false := (isC_beq 110 c 110 rfl).trans hc110
 have m116 : ((c.toNat : Int) == 116) = true := (isC_beq 116 c 116 rfl).trans hc116
 have m120 : ((c.toNat : Int) == 120) = false := (isC_beq 120 c 120 rfl).trans hc120
 clear hc92 hc34 hc110 hc116 hc120
 go_enter Tryz.func127, Tryz.ntmps127
 go_wp2
 go_ret2
 exact ⟨rfl, 0, rfl⟩
theorem esc_120 (s : ByteArray) (c : UInt8) (w : World) (hs : s.size ≤ maxLen) (h2 : 2 ≤ s.size) (hc : s[1] = c) (v : UInt8) (m : Nat) (hX : denX (s.data.toList.drop 2) = (v, m)) (hc92 : isC 92 c = false) (hc34 : isC 34 c = false) (hc110 : isC 110 c = false) (hc116 : isC 116 c = false) (hc120 : isC 120 c = true) :
  Calls Tryz.prog 127 #[.string s] w fun e w' => e = .returned (.tuple #[.int .u8 v.toNat, .int .i64 m]) ∧ ∃ q, w' = w.drewN q := by
 have HX := hid hX
 clear hX
 have hs' := hs
 unfold maxLen at hs'
 have h2z : ¬ (s.size : Int) < 2 := by omega
 have h1 : 1 < s.size := by omega
 have h1z : (1 : Int) < (s.size : Int) := by omega
 have m92 : ((c.toNat : Int) == 92) = false := (isC_beq 92 c 92 rfl).trans hc92
 have m34 : ((c.toNat : Int) == 34) = false := (isC_beq 34 c 34 rfl).trans hc34
 have m110 : ((c.toNat : Int) == 110) = false := (isC_beq 110 c 110 rfl).trans hc110
 have m116 : ((c.toNat : Int) == 116) = false := (isC_beq 116 c 116 rfl).trans hc116
 have m120 : ((c.toNat : Int) == 120) = true := (isC_beq 120 c 120 rfl).trans hc120
 clear hc92 hc34 hc110 hc116 hc120
 go_enter Tryz.func127, Tryz.ntmps127
 go_wp2_with (go_at_call 132; refine (hexEscape_any _ v m _ hs HX.out).mono ?_; rintro e w' ⟨rfl, q, rfl⟩)
 go_ret2
 exact ⟨rfl, _, rfl⟩
theorem esc_no (s : ByteArray) (c : UInt8) (w : World) (hs : s.size ≤ maxLen) (h2 : 2 ≤ s.size) (hc : s[1] = c) (hc92 : isC 92 c = false) (hc34 : isC 34 c = false) (hc110 : isC 110 c = false) (hc116 : isC 116 c = false) (hc120 : isC 120 c = false) :
  Calls Tryz.prog 127 #[.string s] w fun e w' => e = .returned (.tuple #[.int .u8 0, .int .i64 0]) ∧ ∃ q, w' = w.drewN q := by
 have hs' := hs
 unfold maxLen at hs'
 have h2z : ¬ (s.size : Int) < 2 := by omega
 have h1 : 1 < s.size := by omega
 have h1z : (1 : Int) < (s.size : Int) := by omega
 have m92 : ((c.toNat : Int) == 92) = false := (isC_beq 92 c 92 rfl).trans hc92
 have m34 : ((c.toNat : Int) == 34) = false := (isC_beq 34 c 34 rfl).trans hc34
 have m110 : ((c.toNat : Int) == 110) = false := (isC_beq 110 c 110 rfl).trans hc110
 have m116 : ((c.toNat : Int) == 116) = false := (isC_beq 116 c 116 rfl).trans hc116
 have m120 : ((c.toNat : Int) == 120) = false := (isC_beq 120 c 120 rfl).trans hc120
 clear hc92 hc34 hc110 hc116 hc120
 go_enter Tryz.func127, Tryz.ntmps127
 go_wp2
 go_ret2
 exact ⟨rfl, 0, rfl⟩
theorem escape_any (s : ByteArray) (v : UInt8) (m : Nat) (w : World) (hs : s.size ≤ maxLen) (h0 : 1 ≤ s.size) (h : denB (s.data.toList.drop 1) = (v, m)) :
  Calls Tryz.prog 127 #[.string s] w fun e w' => e = .returned (.tuple #[.int .u8 v.toNat, .int .i64 m]) ∧ ∃ q, w' = w.drewN q := by
 by_cases h2 : s.size < 2
 ·have H : Hid (v = 0 ∧ m = 0) := hid (by
   have hl : s.data.toList.drop 1 = [] := List.drop_of_length_le (by rw [len_eq]; omega)
   rw [hl] at h
   cases h; exact ⟨rfl, rfl⟩)
  have h2z : (s.size : Int) < 2 := by omega
  clear h
  go_enter Tryz.func127, Tryz.ntmps127
  go_wp2
  go_ret2
  exact ⟨by rw [H.out.1, H.out.2]; rfl, 0, rfl⟩
 ·have h1 : 1 < s.size := by omega
  rw [get2 h1, denB_cons] at h
  obtain ⟨c, hc⟩ : ∃ c, s[1] = c := ⟨_, rfl⟩
  rw [hc] at h
  by_cases hc92 : isC 92 c = true
  ·have hc34 := isC_ne hc92 (show (92 : UInt8) ≠ 34 by decide); have hc110 := isC_ne hc92 (show (92 : UInt8) ≠ 110 by decide); have hc116 := isC_ne hc92 (show (92 : UInt8) ≠ 116 by decide); have hc120 := isC_ne hc92 (show (92 : UInt8) ≠ 120 by decide); have e := isC_iff.1 hc92
   rw [if_pos (.inl e)] at h
   have ev : v = c ∧ m = 2 := by cases h; exact ⟨rfl, rfl⟩
   rw [ev.1, ev.2]
   exact esc_92 s c w hs (by omega) hc hc92 hc34 hc110 hc116 hc120
  ·have n92 : c ≠ 92 := fun e => hc92 (isC_iff.2 e)
   have hc92 := Bool.eq_false_iff.2 hc92
   by_cases hc34 : isC 34 c = true
   ·have hc110 := isC_ne hc34 (show (34 : UInt8) ≠ 110 by decide); have hc116 := isC_ne hc34 (show (34 : UInt8) ≠ 116 by decide); have hc120 := isC_ne hc34 (show (34 : UInt8) ≠ 120 by decide); have e := isC_iff.1 hc34
    rw [if_pos (.inr e)] at h
    have ev : v = c ∧ m = 2 := by cases h; exact ⟨rfl, rfl⟩
    rw [ev.1, ev.2]
    exact esc_34 s c w hs (by omega) hc hc92 hc34 hc110 hc116 hc120
   ·have n34 : c ≠ 34 := fun e => hc34 (isC_iff.2 e)
    have hc34 := Bool.eq_false_iff.2 hc34
    have nn : ¬ (c = 92 ∨ c = 34) := fun e => e.elim n92 n34
    by_cases hc110 : isC 110 c = true
    ·have hc116 := isC_ne hc110 (show (110 : UInt8) ≠ 116 by decide); have hc120 := isC_ne hc110 (show (110 : UInt8) ≠ 120 by decide); have e := isC_iff.1 hc110
     rw [if_neg nn, if_pos e] at h; cases h
     exact esc_110 s c w hs (by omega) hc hc92 hc34 hc110 hc116 hc120
    ·have n110 : c ≠ 110 := fun e => hc110 (isC_iff.2 e)
     have hc110 := Bool.eq_false_iff.2 hc110
     by_cases hc116 : isC 116 c = true
     ·have hc120 := isC_ne hc116 (show (116 : UInt8) ≠ 120 by decide); have e := isC_iff.1 hc116
      rw [if_neg nn, if_neg n110, if_pos e] at h; cases h
      exact esc_116 s c w hs (by omega) hc hc92 hc34 hc110 hc116 hc120
     ·have n116 : c ≠ 116 := fun e => hc116 (isC_iff.2 e)
      have hc116 := Bool.eq_false_iff.2 hc116
      by_cases hc120 : isC 120 c = true
      ·have e := isC_iff.1 hc120
       rw [if_neg nn, if_neg n110, if_neg n116, if_pos e] at h
       exact esc_120 s c w hs (by omega) hc v m h hc92 hc34 hc110 hc116 hc120
      ·have n120 : c ≠ 120 := fun e => hc120 (isC_iff.2 e)
       have hc120 := Bool.eq_false_iff.2 hc120
       rw [if_neg nn, if_neg n110, if_neg n116, if_neg n120] at h; cases h
       exact esc_no s c w hs (by omega) hc hc92 hc34 hc110 hc116 hc120
theorem denoted_any (s : ByteArray) (v : UInt8) (m : Nat) (w : World) (hs : s.size ≤ maxLen) (h0 : 1 ≤ s.size) (h : den s.data.toList = (v, m)) :
  Calls Tryz.prog 116 #[.string s] w fun e w' => e = .returned (.tuple #[.int .u8 v.toNat, .int .i64 m]) ∧ ∃ q, w' = w.drewN q := by
 have hp : 0 < s.size := by omega
 have hl := get2 hp
 rw [List.drop_zero] at hl
 rw [hl, den_cons] at h
 obtain ⟨c, hc⟩ : ∃ c, s[0] = c := ⟨_, rfl⟩
 rw [hc] at h
 clear hl
 have hpz : (0 : Int) < (s.size : Int) := by omega
 by_cases hc92 : isC 92 c = true
 ·have m92 : ((c.toNat : Int) == 92) = true := (isC_beq 92 c 92 rfl).trans hc92
  rw [if_pos (isC_iff.1 hc92)] at h
  have HB := hid h
  clear h hc92
  go_enter Tryz.func116, Tryz.ntmps116
  go_wp2_with (go_at_call 127; refine (escape_any _ v m _ hs h0 HB.out).mono ?_; rintro e w' ⟨rfl, q, rfl⟩)
  go_ret2
  exact ⟨rfl, _, rfl⟩
 ·have m92 : ((c.toNat : Int) == 92) = false := (isC_beq 92 c 92 rfl).trans (Bool.eq_false_iff.2 hc92)
  rw [if_neg (fun e => hc92 (isC_iff.2 e))] at h
  rcases Bool.eq_false_or_eq_true (good c) with hg | hg
  ·rw [if_pos hg] at h
   have H : Hid (v = c ∧ m = 1) := hid (by cases h; exact ⟨rfl, rfl⟩)
   have hcall := printable_any c
   rw [hg] at hcall
   clear h hc92 hg
   go_enter Tryz.func116, Tryz.ntmps116
   go_wp2_with (go_at_call 68; refine (hcall _).mono ?_; rintro e w' ⟨rfl, rfl⟩)
   go_ret2
   exact ⟨by rw [H.out.1, H.out.2]; rfl, 0, rfl⟩
  ·rw [if_neg (by rw [hg]; decide)] at h
   have H : Hid (v = 0 ∧ m = 0) := hid (by cases h; exact ⟨rfl, rfl⟩)
   have hcall := printable_any c
   rw [hg] at hcall
   clear h hc92 hg
   go_enter Tryz.func116, Tryz.ntmps116
   go_wp2_with (go_at_call 68; refine (hcall _).mono ?_; rintro e w' ⟨rfl, rfl⟩)
   go_ret2
   exact ⟨by rw [H.out.1, H.out.2]; rfl, 0, rfl⟩
end
end Go.Proofs.YtgdejjkiiaodkaaGreatDoor
