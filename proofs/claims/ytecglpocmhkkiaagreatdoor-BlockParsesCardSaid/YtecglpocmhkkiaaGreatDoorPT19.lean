/- RefBegins, RefSay -/
import Derived.Test.YtecglpocmhkkiaaGreatDoorPT15
import Derived.Test.YtecglpocmhkkiaaGreatDoorPT18
set_option linter.unusedVariables false
set_option linter.unusedSimpArgs false
set_option maxRecDepth 100000
set_option maxHeartbeats 16000000
open Go.Lib (hid)
namespace Go.Proofs.YtecglpocmhkkiaaGreatDoor
section
open Go.RowKit
open Q6
theorem byte_beq (c : UInt8) (k : Nat) (b : Bool) (h : decide (c.toNat = k) = b) : ((c.toNat : Int) == (k : Int)) = b := by
 subst h
 rw [Bool.eq_iff_iff, beq_iff_eq, decide_eq_true_eq]; omega
theorem byte_bne (c : UInt8) (k : Nat) (b : Bool) (h : decide (c.toNat ≠ k) = b) : ((c.toNat : Int) != (k : Int)) = b := by
 subst h
 rw [Bool.eq_iff_iff, bne_iff_ne, decide_eq_true_eq]; omega
theorem begin0_35 (s : ByteArray) (w : World) (hs : s.size ≤ 100000) (hk : 0 < s.size) (c : UInt8) (hc : s[0]'hk = c) (hc : c = 35) :
  Calls Tryz.prog 63 #[.string s, .int .i64 0] w fun e w' => e = .returned (.int .i64 2) ∧ w = w' := by
 have m35 : ((c.toNat : Int) == 35) = true := byte_beq c 35 true (by rw [hc]; decide)
 have n34 : ((c.toNat : Int) != 34) = true := byte_bne c 34 true (decide_eq_true (by rw [hc]; decide))
 have n39 : ((c.toNat : Int) != 39) = true := byte_bne c 39 true (decide_eq_true (by rw [hc]; decide))
 have hkz : (0 : Int) < (s.size : Int) := by omega
 go_enter Tryz.func63, Tryz.ntmps63
 go_wp2
 go_ret
 exact ⟨rfl, rfl⟩
theorem begin0_34 (s : ByteArray) (w : World) (hs : s.size ≤ 100000) (hk : 0 < s.size) (c : UInt8) (hc : s[0]'hk = c) (hc : c = 34) :
  Calls Tryz.prog 63 #[.string s, .int .i64 0] w fun e w' => e = .returned (.int .i64 1) ∧ w = w' := by
 have m35 : ((c.toNat : Int) == 35) = false := byte_beq c 35 false (decide_eq_false (by rw [hc]; decide))
 have n34 : ((c.toNat : Int) != 34) = false := byte_bne c 34 false (by rw [hc]; decide)
 have n39 : ((c.toNat : Int) != 39) = true := byte_bne c 39 true (decide_eq_true (by rw [hc]; decide))
 have hkz : (0 : Int) < (s.size : Int) := by omega
 go_enter Tryz.func63, Tryz.ntmps63
 go_wp2
 go_ret
 exact ⟨rfl, rfl⟩
theorem begin0_39 (s : ByteArray) (w : World) (hs : s.size ≤ 100000) (hk : 0 < s.size) (c : UInt8) (hc : s[0]'hk = c) (hc : c = 39) :
  Calls Tryz.prog 63 #[.string s, .int .i64 0] w fun e w' => e = .returned (.int .i64 1) ∧ w = w' := by
 have m35 : ((c.toNat : Int) == 35) = false := byte_beq c 35 false (decide_eq_false (by rw [hc]; decide))
 have n34 : ((c.toNat : Int) != 34) = true := byte_bne c 34 true (decide_eq_true (by rw [hc]; decide))
 have n39 : ((c.toNat : Int) != 39) = false := byte_bne c 39 false (by rw [hc]; decide)
 have hkz : (0 : Int) < (s.size : Int) := by omega
 go_enter Tryz.func63, Tryz.ntmps63
 go_wp2
 go_ret
 exact ⟨rfl, rfl⟩
theorem begin0_x (s : ByteArray) (w : World) (hs : s.size ≤ 100000) (hk : 0 < s.size) (c : UInt8) (hc : s[0]'hk = c) (hc35 : c ≠ 35) (hc34 : c ≠ 34) (hc39 : c ≠ 39) :
  Calls Tryz.prog 63 #[.string s, .int .i64 0] w fun e w' => e = .returned (.int .i64 0) ∧ w = w' := by
 have m35 : ((c.toNat : Int) == 35) = false := byte_beq c 35 false (decide_eq_false (by intro e; exact hc35 (UInt8.toNat_inj.1 e)))
 have n34 : ((c.toNat : Int) != 34) = true := byte_bne c 34 true (decide_eq_true (by intro e; exact hc34 (UInt8.toNat_inj.1 e)))
 have n39 : ((c.toNat : Int) != 39) = true := byte_bne c 39 true (decide_eq_true (by intro e; exact hc39 (UInt8.toNat_inj.1 e)))
 have hkz : (0 : Int) < (s.size : Int) := by omega
 clear hc35 hc34 hc39
 go_enter Tryz.func63, Tryz.ntmps63
 go_wp2
 go_ret
 exact ⟨rfl, rfl⟩
theorem begin_35_32 (s : ByteArray) (j : Nat) (w : World) (hs : s.size ≤ 100000) (hk : j + 1 < s.size) (c p : UInt8) (hc : s[j + 1]'hk = c) (hj : j < s.size) (hpp : s[j]'hj = p) (hc : c = 35) (hp : p = 32) :
  Calls Tryz.prog 63 #[.string s, .int .i64 ((j : Int) + 1)] w fun e w' => e = .returned (.int .i64 2) ∧ w = w' := by
 have m35 : ((c.toNat : Int) == 35) = true := byte_beq c 35 true (by rw [hc]; decide)
 have n34 : ((c.toNat : Int) != 34) = true := byte_bne c 34 true (decide_eq_true (by rw [hc]; decide))
 have n39 : ((c.toNat : Int) != 39) = true := byte_bne c 39 true (decide_eq_true (by rw [hc]; decide))
 have q32 : ((p.toNat : Int) == 32) = true := byte_beq p 32 true (by rw [hp]; decide)
 have q91 : ((p.toNat : Int) == 91) = false := byte_beq p 91 false (decide_eq_false (by rw [hp]; decide))
 have q123 : ((p.toNat : Int) == 123) = false := byte_beq p 123 false (decide_eq_false (by rw [hp]; decide))
 have q44 : ((p.toNat : Int) == 44) = false := byte_beq p 44 false (decide_eq_false (by rw [hp]; decide))
 have hkz : (j : Int) + 1 < (s.size : Int) := by omega
 have hjz : (j : Int) < (s.size : Int) := by omega
 have e0 : (0 : Int) < (j : Int) + 1 := by omega
 have e2 : IntKind.i64.wrap ((j : Int) + 1 - 1) = (j : Int) := by rw [Int.add_sub_cancel]; exact IntWalk.i64_in _ (by omega)
 have e3 : 0 ≤ (j : Int) + 1 := by omega
 have e4 : ((j : Int) + 1).toNat = j + 1 := by omega
 go_enter Tryz.func63, Tryz.ntmps63
 go_wp2
 go_ret
 exact ⟨rfl, rfl⟩
theorem begin_35_91 (s : ByteArray) (j : Nat) (w : World) (hs : s.size ≤ 100000) (hk : j + 1 < s.size) (c p : UInt8) (hc : s[j + 1]'hk = c) (hj : j < s.size) (hpp : s[j]'hj = p) (hc : c = 35) (hp : p = 91) :
  Calls Tryz.prog 63 #[.string s, .int .i64 ((j : Int) + 1)] w fun e w' => e = .returned (.int .i64 0) ∧ w = w' := by
 have m35 : ((c.toNat : Int) == 35) = true := byte_beq c 35 true (by rw [hc]; decide)
 have n34 : ((c.toNat : Int) != 34) = true := byte_bne c 34 true (decide_eq_true (by rw [hc]; decide))
 have n39 : ((c.toNat : Int) != 39) = true := byte_bne c 39 true (decide_eq_true (by rw [hc]; decide))
 have q32 : ((p.toNat : Int) == 32) = false := byte_beq p 32 false (decide_eq_false (by rw [hp]; decide))
 have q91 : ((p.toNat : Int) == 91) = true := byte_beq p 91 true (by rw [hp]; decide)
 have q123 : ((p.toNat : Int) == 123) = false := byte_beq p 123 false (decide_eq_false (by rw [hp]; decide))
 have q44 : ((p.toNat : Int) == 44) = false := byte_beq p 44 false (decide_eq_false (by rw [hp]; decide))
 have hkz : (j : Int) + 1 < (s.size : Int) := by omega
 have hjz : (j : Int) < (s.size : Int) := by omega
 have e0 : (0 : Int) < (j : Int) + 1 := by omega
 have e2 : IntKind.i64.wrap ((j : Int) + 1 - 1) = (j : Int) := by rw [Int.add_sub_cancel]; exact IntWalk.i64_in _ (by omega)
 have e3 : 0 ≤ (j : Int) + 1 := by omega
 have e4 : ((j : Int) + 1).toNat = j + 1 := by omega
 go_enter Tryz.func63, Tryz.ntmps63
 go_wp2
 go_ret
 exact ⟨rfl, rfl⟩
theorem begin_35_123 (s : ByteArray) (j : Nat) (w : World) (hs : s.size ≤ 100000) (hk : j + 1 < s.size) (c p : UInt8) (hc : s[j + 1]'hk = c) (hj : j < s.size) (hpp : s[j]'hj = p) (hc : c = 35) (hp : p = 123) :
  Calls Tryz.prog 63 #[.string s, .int .i64 ((j : Int) + 1)] w fun e w' => e = .returned (.int .i64 0) ∧ w = w' := by
 have m35 : ((c.toNat : Int) == 35) = true := byte_beq c 35 true (by rw [hc]; decide)
 have n34 : ((c.toNat : Int) != 34) = true := byte_bne c 34 true (decide_eq_true (by rw [hc]; decide))
 have n39 : ((c.toNat : Int) != 39) = true := byte_bne c 39 true (decide_eq_true (by rw [hc]; decide))
 have q32 : ((p.toNat : Int) == 32) = false := byte_beq p 32 false (decide_eq_false (by rw [hp]; decide))
 have q91 : ((p.toNat : Int) == 91) = false := byte_beq p 91 false (decide_eq_false (by rw [hp]; decide))
 have q123 : ((p.toNat : Int) == 123) = true := byte_beq p 123 true (by rw [hp]; decide)
 have q44 : ((p.toNat : Int) == 44) = false := byte_beq p 44 false (decide_eq_false (by rw [hp]; decide))
 have hkz : (j : Int) + 1 < (s.size : Int) := by omega
 have hjz : (j : Int) < (s.size : Int) := by omega
 have e0 : (0 : Int) < (j : Int) + 1 := by omega
 have e2 : IntKind.i64.wrap ((j : Int) + 1 - 1) = (j : Int) := by rw [Int.add_sub_cancel]; exact IntWalk.i64_in _ (by omega)
 have e3 : 0 ≤ (j : Int) + 1 := by omega
 have e4 : ((j : Int) + 1).toNat = j + 1 := by omega
 go_enter Tryz.func63, Tryz.ntmps63
 go_wp2
 go_ret
 exact ⟨rfl, rfl⟩
theorem begin_35_44 (s : ByteArray) (j : Nat) (w : World) (hs : s.size ≤ 100000) (hk : j + 1 < s.size) (c p : UInt8) (hc : s[j + 1]'hk = c) (hj : j < s.size) (hpp : s[j]'hj = p) (hc : c = 35) (hp : p = 44) :
  Calls Tryz.prog 63 #[.string s, .int .i64 ((j : Int) + 1)] w fun e w' => e = .returned (.int .i64 0) ∧ w = w' := by
 have m35 : ((c.toNat : Int) == 35) = true := byte_beq c 35 true (by rw [hc]; decide)
 have n34 : ((c.toNat : Int) != 34) = true := byte_bne c 34 true (decide_eq_true (by rw [hc]; decide))
 have n39 : ((c.toNat : Int) != 39) = true := byte_bne c 39 true (decide_eq_true (by rw [hc]; decide))
 have q32 : ((p.toNat : Int) == 32) = false := byte_beq p 32 false (decide_eq_false (by rw [hp]; decide))
 have q91 : ((p.toNat : Int) == 91) = false := byte_beq p 91 false (decide_eq_false (by rw [hp]; decide))
 have q123 : ((p.toNat : Int) == 123) = false := byte_beq p 123 false (decide_eq_false (by rw [hp]; decide))
 have q44 : ((p.toNat : Int) == 44) = true := byte_beq p 44 true (by rw [hp]; decide)
 have hkz : (j : Int) + 1 < (s.size : Int) := by omega
 have hjz : (j : Int) < (s.size : Int) := by omega
 have e0 : (0 : Int) < (j : Int) + 1 := by omega
 have e2 : IntKind.i64.wrap ((j : Int) + 1 - 1) = (j : Int) := by rw [Int.add_sub_cancel]; exact IntWalk.i64_in _ (by omega)
 have e3 : 0 ≤ (j : Int) + 1 := by omega
 have e4 : ((j : Int) + 1).toNat = j + 1 := by omega
 go_enter Tryz.func63, Tryz.ntmps63
 go_wp2
 go_ret
 exact ⟨rfl, rfl⟩
theorem begin_35_x (s : ByteArray) (j : Nat) (w : World) (hs : s.size ≤ 100000) (hk : j + 1 < s.size) (c p : UInt8) (hc : s[j + 1]'hk = c) (hj : j < s.size) (hpp : s[j]'hj = p) (hc : c = 35) (hp32 : p ≠ 32) (hp91 : p ≠ 91) (hp123 : p ≠ 123) (hp44 : p ≠ 44) :
  Calls Tryz.prog 63 #[.string s, .int .i64 ((j : Int) + 1)] w fun e w' => e = .returned (.int .i64 0) ∧ w = w' := by
 have m35 : ((c.toNat : Int) == 35) = true := byte_beq c 35 true (by rw [hc]; decide)
 have n34 : ((c.toNat : Int) != 34) = true := byte_bne c 34 true (decide_eq_true (by rw [hc]; decide))
 have n39 : ((c.toNat : Int) != 39) = true := byte_bne c 39 true (decide_eq_true (by rw [hc]; decide))
 have q32 : ((p.toNat : Int) == 32) = false := byte_beq p 32 false (decide_eq_false (by intro e; exact hp32 (UInt8.toNat_inj.1 e)))
 have q91 : ((p.toNat : Int) == 91) = false := byte_beq p 91 false (decide_eq_false (by intro e; exact hp91 (UInt8.toNat_inj.1 e)))
 have q123 : ((p.toNat : Int) == 123) = false := byte_beq p 123 false (decide_eq_false (by intro e; exact hp123 (UInt8.toNat_inj.1 e)))
 have q44 : ((p.toNat : Int) == 44) = false := byte_beq p 44 false (decide_eq_false (by intro e; exact hp44 (UInt8.toNat_inj.1 e)))
 have hkz : (j : Int) + 1 < (s.size : Int) := by omega
 have hjz : (j : Int) < (s.size : Int) := by omega
 have e0 : (0 : Int) < (j : Int) + 1 := by omega
 have e2 : IntKind.i64.wrap ((j : Int) + 1 - 1) = (j : Int) := by rw [Int.add_sub_cancel]; exact IntWalk.i64_in _ (by omega)
 have e3 : 0 ≤ (j : Int) + 1 := by omega
 have e4 : ((j : Int) + 1).toNat = j + 1 := by omega
 clear hp32 hp91 hp123 hp44
 go_enter Tryz.func63, Tryz.ntmps63
 go_wp2
 go_ret
 exact ⟨rfl, rfl⟩
theorem begin_34_32 (s : ByteArray) (j : Nat) (w : World) (hs : s.size ≤ 100000) (hk : j + 1 < s.size) (c p : UInt8) (hc : s[j + 1]'hk = c) (hj : j < s.size) (hpp : s[j]'hj = p) (hc : c = 34) (hp : p = 32) :
  Calls Tryz.prog 63 #[.string s, .int .i64 ((j : Int) + 1)] w fun e w' => e = .returned (.int .i64 1) ∧ w = w' := by
 have m35 : ((c.toNat : Int) == 35) = false := byte_beq c 35 false (decide_eq_false (by rw [hc]; decide))
 have n34 : ((c.toNat : Int) != 34) = false := byte_bne c 34 false (by rw [hc]; decide)
 have n39 : ((c.toNat : Int) != 39) = true := byte_bne c 39 true (decide_eq_true (by rw [hc]; decide))
 have q32 : ((p.toNat : Int) == 32) = true := byte_beq p 32 true (by rw [hp]; decide)
 have q91 : ((p.toNat : Int) == 91) = false := byte_beq p 91 false (decide_eq_false (by rw [hp]; decide))
 have q123 : ((p.toNat : Int) == 123) = false := byte_beq p 123 false (decide_eq_false (by rw [hp]; decide))
 have q44 : ((p.toNat : Int) == 44) = false := byte_beq p 44 false (decide_eq_false (by rw [hp]; decide))
 have hkz : (j : Int) + 1 < (s.size : Int) := by omega
 have hjz : (j : Int) < (s.size : Int) := by omega
 have e0 : (0 : Int) < (j : Int) + 1 := by omega
 have e2 : IntKind.i64.wrap ((j : Int) + 1 - 1) = (j : Int) := by rw [Int.add_sub_cancel]; exact IntWalk.i64_in _ (by omega)
 have e3 : 0 ≤ (j : Int) + 1 := by omega
 have e4 : ((j : Int) + 1).toNat = j + 1 := by omega
 go_enter Tryz.func63, Tryz.ntmps63
 go_wp2
 go_ret
 exact ⟨rfl, rfl⟩
theorem begin_34_91 (s : ByteArray) (j : Nat) (w : World) (hs : s.size ≤ 100000) (hk : j + 1 < s.size) (c p : UInt8) (hc : s[j + 1]'hk = c) (hj : j < s.size) (hpp : s[j]'hj = p) (hc : c = 34) (hp : p = 91) :
  Calls Tryz.prog 63 #[.string s, .int .i64 ((j : Int) + 1)] w fun e w' => e = .returned (.int .i64 1) ∧ w = w' := by
 have m35 : ((c.toNat : Int) == 35) = false := byte_beq c 35 false (decide_eq_false (by rw [hc]; decide))
 have n34 : ((c.toNat : Int) != 34) = false := byte_bne c 34 false (by rw [hc]; decide)
 have n39 : ((c.toNat : Int) != 39) = true := byte_bne c 39 true (decide_eq_true (by rw [hc]; decide))
 have q32 : ((p.toNat : Int) == 32) = false := byte_beq p 32 false (decide_eq_false (by rw [hp]; decide))
 have q91 : ((p.toNat : Int) == 91) = true := byte_beq p 91 true (by rw [hp]; decide)
 have q123 : ((p.toNat : Int) == 123) = false := byte_beq p 123 false (decide_eq_false (by rw [hp]; decide))
 have q44 : ((p.toNat : Int) == 44) = false := byte_beq p 44 false (decide_eq_false (by rw [hp]; decide))
 have hkz : (j : Int) + 1 < (s.size : Int) := by omega
 have hjz : (j : Int) < (s.size : Int) := by omega
 have e0 : (0 : Int) < (j : Int) + 1 := by omega
 have e2 : IntKind.i64.wrap ((j : Int) + 1 - 1) = (j : Int) := by rw [Int.add_sub_cancel]; exact IntWalk.i64_in _ (by omega)
 have e3 : 0 ≤ (j : Int) + 1 := by omega
 have e4 : ((j : Int) + 1).toNat = j + 1 := by omega
 go_enter Tryz.func63, Tryz.ntmps63
 go_wp2
 go_ret
 exact ⟨rfl, rfl⟩
theorem begin_34_123 (s : ByteArray) (j : Nat) (w : World) (hs : s.size ≤ 100000) (hk : j + 1 < s.size) (c p : UInt8) (hc : s[j + 1]'hk = c) (hj : j < s.size) (hpp : s[j]'hj = p) (hc : c = 34) (hp : p = 123) :
  Calls Tryz.prog 63 #[.string s, .int .i64 ((j : Int) + 1)] w fun e w' => e = .returned (.int .i64 1) ∧ w = w' := by
 have m35 : ((c.toNat : Int) == 35) = false := byte_beq c 35 false (decide_eq_false (by rw [hc]; decide))
 have n34 : ((c.toNat : Int) != 34) = false := byte_bne c 34 false (by rw [hc]; decide)
 have n39 : ((c.toNat : Int) != 39) = true := byte_bne c 39 true (decide_eq_true (by rw [hc]; decide))
 have q32 : ((p.toNat : Int) == 32) = false := byte_beq p 32 false (decide_eq_false (by rw [hp]; decide))
 have q91 : ((p.toNat : Int) == 91) = false := byte_beq p 91 false (decide_eq_false (by rw [hp]; decide))
 have q123 : ((p.toNat : Int) == 123) = true := byte_beq p 123 true (by rw [hp]; decide)
 have q44 : ((p.toNat : Int) == 44) = false := byte_beq p 44 false (decide_eq_false (by rw [hp]; decide))
 have hkz : (j : Int) + 1 < (s.size : Int) := by omega
 have hjz : (j : Int) < (s.size : Int) := by omega
 have e0 : (0 : Int) < (j : Int) + 1 := by omega
 have e2 : IntKind.i64.wrap ((j : Int) + 1 - 1) = (j : Int) := by rw [Int.add_sub_cancel]; exact IntWalk.i64_in _ (by omega)
 have e3 : 0 ≤ (j : Int) + 1 := by omega
 have e4 : ((j : Int) + 1).toNat = j + 1 := by omega
 go_enter Tryz.func63, Tryz.ntmps63
 go_wp2
 go_ret
 exact ⟨rfl, rfl⟩
theorem begin_34_44 (s : ByteArray) (j : Nat) (w : World) (hs : s.size ≤ 100000) (hk : j + 1 < s.size) (c p : UInt8) (hc : s[j + 1]'hk = c) (hj : j < s.size) (hpp : s[j]'hj = p) (hc : c = 34) (hp : p = 44) :
  Calls Tryz.prog 63 #[.string s, .int .i64 ((j : Int) + 1)] w fun e w' => e = .returned (.int .i64 1) ∧ w = w' := by
 have m35 : ((c.toNat : Int) == 35) = false := byte_beq c 35 false (decide_eq_false (by rw [hc]; decide))
 have n34 : ((c.toNat : Int) != 34) = false := byte_bne c 34 false (by rw [hc]; decide)
 have n39 : ((c.toNat : Int) != 39) = true := byte_bne c 39 true (decide_eq_true (by rw [hc]; decide))
 have q32 : ((p.toNat : Int) == 32) = false := byte_beq p 32 false (decide_eq_false (by rw [hp]; decide))
 have q91 : ((p.toNat : Int) == 91) = false := byte_beq p 91 false (decide_eq_false (by rw [hp]; decide))
 have q123 : ((p.toNat : Int) == 123) = false := byte_beq p 123 false (decide_eq_false (by rw [hp]; decide))
 have q44 : ((p.toNat : Int) == 44) = true := byte_beq p 44 true (by rw [hp]; decide)
 have hkz : (j : Int) + 1 < (s.size : Int) := by omega
 have hjz : (j : Int) < (s.size : Int) := by omega
 have e0 : (0 : Int) < (j : Int) + 1 := by omega
 have e2 : IntKind.i64.wrap ((j : Int) + 1 - 1) = (j : Int) := by rw [Int.add_sub_cancel]; exact IntWalk.i64_in _ (by omega)
 have e3 : 0 ≤ (j : Int) + 1 := by omega
 have e4 : ((j : Int) + 1).toNat = j + 1 := by omega
 go_enter Tryz.func63, Tryz.ntmps63
 go_wp2
 go_ret
 exact ⟨rfl, rfl⟩
theorem begin_34_x (s : ByteArray) (j : Nat) (w : World) (hs : s.size ≤ 100000) (hk : j + 1 < s.size) (c p : UInt8) (hc : s[j + 1]'hk = c) (hj : j < s.size) (hpp : s[j]'hj = p) (hc : c = 34) (hp32 : p ≠ 32) (hp91 : p ≠ 91) (hp123 : p ≠ 123) (hp44 : p ≠ 44) :
  Calls Tryz.prog 63 #[.string s, .int .i64 ((j : Int) + 1)] w fun e w' => e = .returned (.int .i64 0) ∧ w = w' := by
 have m35 : ((c.toNat : Int) == 35) = false := byte_beq c 35 false (decide_eq_false (by rw [hc]; decide))
 have n34 : ((c.toNat : Int) != 34) = false := byte_bne c 34 false (by rw [hc]; decide)
 have n39 : ((c.toNat : Int) != 39) = true := byte_bne c 39 true (decide_eq_true (by rw [hc]; decide))
 have q32 : ((p.toNat : Int) == 32) = false := byte_beq p 32 false (decide_eq_false (by intro e; exact hp32 (UInt8.toNat_inj.1 e)))
 have q91 : ((p.toNat : Int) == 91) = false := byte_beq p 91 false (decide_eq_false (by intro e; exact hp91 (UInt8.toNat_inj.1 e)))
 have q123 : ((p.toNat : Int) == 123) = false := byte_beq p 123 false (decide_eq_false (by intro e; exact hp123 (UInt8.toNat_inj.1 e)))
 have q44 : ((p.toNat : Int) == 44) = false := byte_beq p 44 false (decide_eq_false (by intro e; exact hp44 (UInt8.toNat_inj.1 e)))
 have hkz : (j : Int) + 1 < (s.size : Int) := by omega
 have hjz : (j : Int) < (s.size : Int) := by omega
 have e0 : (0 : Int) < (j : Int) + 1 := by omega
 have e2 : IntKind.i64.wrap ((j : Int) + 1 - 1) = (j : Int) := by rw [Int.add_sub_cancel]; exact IntWalk.i64_in _ (by omega)
 have e3 : 0 ≤ (j : Int) + 1 := by omega
 have e4 : ((j : Int) + 1).toNat = j + 1 := by omega
 clear hp32 hp91 hp123 hp44
 go_enter Tryz.func63, Tryz.ntmps63
 go_wp2
 go_ret
 exact ⟨rfl, rfl⟩
theorem begin_39_32 (s : ByteArray) (j : Nat) (w : World) (hs : s.size ≤ 100000) (hk : j + 1 < s.size) (c p : UInt8) (hc : s[j + 1]'hk = c) (hj : j < s.size) (hpp : s[j]'hj = p) (hc : c = 39) (hp : p = 32) :
  Calls Tryz.prog 63 #[.string s, .int .i64 ((j : Int) + 1)] w fun e w' => e = .returned (.int .i64 1) ∧ w = w' := by
 have m35 : ((c.toNat : Int) == 35) = false := byte_beq c 35 false (decide_eq_false (by rw [hc]; decide))
 have n34 : ((c.toNat : Int) != 34) = true := byte_bne c 34 true (decide_eq_true (by rw [hc]; decide))
 have n39 : ((c.toNat : Int) != 39) = false := byte_bne c 39 false (by rw [hc]; decide)
 have q32 : ((p.toNat : Int) == 32) = true := byte_beq p 32 true (by rw [hp]; decide)
 have q91 : ((p.toNat : Int) == 91) = false := byte_beq p 91 false (decide_eq_false (by rw [hp]; decide))
 have q123 : ((p.toNat : Int) == 123) = false := byte_beq p 123 false (decide_eq_false (by rw [hp]; decide))
 have q44 : ((p.toNat : Int) == 44) = false := byte_beq p 44 false (decide_eq_false (by rw [hp]; decide))
 have hkz : (j : Int) + 1 < (s.size : Int) := by omega
 have hjz : (j : Int) < (s.size : Int) := by omega
 have e0 : (0 : Int) < (j : Int) + 1 := by omega
 have e2 : IntKind.i64.wrap ((j : Int) + 1 - 1) = (j : Int) := by rw [Int.add_sub_cancel]; exact IntWalk.i64_in _ (by omega)
 have e3 : 0 ≤ (j : Int) + 1 := by omega
 have e4 : ((j : Int) + 1).toNat = j + 1 := by omega
 go_enter Tryz.func63, Tryz.ntmps63
 go_wp2
 go_ret
 exact ⟨rfl, rfl⟩
theorem begin_39_91 (s : ByteArray) (j : Nat) (w : World) (hs : s.size ≤ 100000) (hk : j + 1 < s.size) (c p : UInt8) (hc : s[j + 1]'hk = c) (hj : j < s.size) (hpp : s[j]'hj = p) (hc : c = 39) (hp : p = 91) :
  Calls Tryz.prog 63 #[.string s, .int .i64 ((j : Int) + 1)] w fun e w' => e = .returned (.int .i64 1) ∧ w = w' := by
 have m35 : ((c.toNat : Int) == 35) = false := byte_beq c 35 false (decide_eq_false (by rw [hc]; decide))
 have n34 : ((c.toNat : Int) != 34) = true := byte_bne c 34 true (decide_eq_true (by rw [hc]; decide))
 have n39 : ((c.toNat : Int) != 39) = false := byte_bne c 39 false (by rw [hc]; decide)
 have q32 : ((p.toNat : Int) == 32) = false := byte_beq p 32 false (decide_eq_false (by rw [hp]; decide))
 have q91 : ((p.toNat : Int) == 91) = true := byte_beq p 91 true (by rw [hp]; decide)
 have q123 : ((p.toNat : Int) == 123) = false := byte_beq p 123 false (decide_eq_false (by rw [hp]; decide))
 have q44 : ((p.toNat : Int) == 44) = false := byte_beq p 44 false (decide_eq_false (by rw [hp]; decide))
 have hkz : (j : Int) + 1 < (s.size : Int) := by omega
 have hjz : (j : Int) < (s.size : Int) := by omega
 have e0 : (0 : Int) < (j : Int) + 1 := by omega
 have e2 : IntKind.i64.wrap ((j : Int) + 1 - 1) = (j : Int) := by rw [Int.add_sub_cancel]; exact IntWalk.i64_in _ (by omega)
 have e3 : 0 ≤ (j : Int) + 1 := by omega
 have e4 : ((j : Int) + 1).toNat = j + 1 := by omega
 go_enter Tryz.func63, Tryz.ntmps63
 go_wp2
 go_ret
 exact ⟨rfl, rfl⟩
theorem begin_39_123 (s : ByteArray) (j : Nat) (w : World) (hs : s.size ≤ 100000) (hk : j + 1 < s.size) (c p : UInt8) (hc : s[j + 1]'hk = c) (hj : j < s.size) (hpp : s[j]'hj = p) (hc : c = 39) (hp : p = 123) :
  Calls Tryz.prog 63 #[.string s, .int .i64 ((j : Int) + 1)] w fun e w' => e = .returned (.int .i64 1) ∧ w = w' := by
 have m35 : ((c.toNat : Int) == 35) = false := byte_beq c 35 false (decide_eq_false (by rw [hc]; decide))
 have n34 : ((c.toNat : Int) != 34) = true := byte_bne c 34 true (decide_eq_true (by rw [hc]; decide))
 have n39 : ((c.toNat : Int) != 39) = false := byte_bne c 39 false (by rw [hc]; decide)
 have q32 : ((p.toNat : Int) == 32) = false := byte_beq p 32 false (decide_eq_false (by rw [hp]; decide))
 have q91 : ((p.toNat : Int) == 91) = false := byte_beq p 91 false (decide_eq_false (by rw [hp]; decide))
 have q123 : ((p.toNat : Int) == 123) = true := byte_beq p 123 true (by rw [hp]; decide)
 have q44 : ((p.toNat : Int) == 44) = false := byte_beq p 44 false (decide_eq_false (by rw [hp]; decide))
 have hkz : (j : Int) + 1 < (s.size : Int) := by omega
 have hjz : (j : Int) < (s.size : Int) := by omega
 have e0 : (0 : Int) < (j : Int) + 1 := by omega
 have e2 : IntKind.i64.wrap ((j : Int) + 1 - 1) = (j : Int) := by rw [Int.add_sub_cancel]; exact IntWalk.i64_in _ (by omega)
 have e3 : 0 ≤ (j : Int) + 1 := by omega
 have e4 : ((j : Int) + 1).toNat = j + 1 := by omega
 go_enter Tryz.func63, Tryz.ntmps63
 go_wp2
 go_ret
 exact ⟨rfl, rfl⟩
theorem begin_39_44 (s : ByteArray) (j : Nat) (w : World) (hs : s.size ≤ 100000) (hk : j + 1 < s.size) (c p : UInt8) (hc : s[j + 1]'hk = c) (hj : j < s.size) (hpp : s[j]'hj = p) (hc : c = 39) (hp : p = 44) :
  Calls Tryz.prog 63 #[.string s, .int .i64 ((j : Int) + 1)] w fun e w' => e = .returned (.int .i64 1) ∧ w = w' := by
 have m35 : ((c.toNat : Int) == 35) = false := byte_beq c 35 false (decide_eq_false (by rw [hc]; decide))
 have n34 : ((c.toNat : Int) != 34) = true := byte_bne c 34 true (decide_eq_true (by rw [hc]; decide))
 have n39 : ((c.toNat : Int) != 39) = false := byte_bne c 39 false (by rw [hc]; decide)
 have q32 : ((p.toNat : Int) == 32) = false := byte_beq p 32 false (decide_eq_false (by rw [hp]; decide))
 have q91 : ((p.toNat : Int) == 91) = false := byte_beq p 91 false (decide_eq_false (by rw [hp]; decide))
 have q123 : ((p.toNat : Int) == 123) = false := byte_beq p 123 false (decide_eq_false (by rw [hp]; decide))
 have q44 : ((p.toNat : Int) == 44) = true := byte_beq p 44 true (by rw [hp]; decide)
 have hkz : (j : Int) + 1 < (s.size : Int) := by omega
 have hjz : (j : Int) < (s.size : Int) := by omega
 have e0 : (0 : Int) < (j : Int) + 1 := by omega
 have e2 : IntKind.i64.wrap ((j : Int) + 1 - 1) = (j : Int) := by rw [Int.add_sub_cancel]; exact IntWalk.i64_in _ (by omega)
 have e3 : 0 ≤ (j : Int) + 1 := by omega
 have e4 : ((j : Int) + 1).toNat = j + 1 := by omega
 go_enter Tryz.func63, Tryz.ntmps63
 go_wp2
 go_ret
 exact ⟨rfl, rfl⟩
theorem begin_39_x (s : ByteArray) (j : Nat) (w : World) (hs : s.size ≤ 100000) (hk : j + 1 < s.size) (c p : UInt8) (hc : s[j + 1]'hk = c) (hj : j < s.size) (hpp : s[j]'hj = p) (hc : c = 39) (hp32 : p ≠ 32) (hp91 : p ≠ 91) (hp123 : p ≠ 123) (hp44 : p ≠ 44) :
  Calls Tryz.prog 63 #[.string s, .int .i64 ((j : Int) + 1)] w fun e w' => e = .returned (.int .i64 0) ∧ w = w' := by
 have m35 : ((c.toNat : Int) == 35) = false := byte_beq c 35 false (decide_eq_false (by rw [hc]; decide))
 have n34 : ((c.toNat : Int) != 34) = true := byte_bne c 34 true (decide_eq_true (by rw [hc]; decide))
 have n39 : ((c.toNat : Int) != 39) = false := byte_bne c 39 false (by rw [hc]; decide)
 have q32 : ((p.toNat : Int) == 32) = false := byte_beq p 32 false (decide_eq_false (by intro e; exact hp32 (UInt8.toNat_inj.1 e)))
 have q91 : ((p.toNat : Int) == 91) = false := byte_beq p 91 false (decide_eq_false (by intro e; exact hp91 (UInt8.toNat_inj.1 e)))
 have q123 : ((p.toNat : Int) == 123) = false := byte_beq p 123 false (decide_eq_false (by intro e; exact hp123 (UInt8.toNat_inj.1 e)))
 have q44 : ((p.toNat : Int) == 44) = false := byte_beq p 44 false (decide_eq_false (by intro e; exact hp44 (UInt8.toNat_inj.1 e)))
 have hkz : (j : Int) + 1 < (s.size : Int) := by omega
 have hjz : (j : Int) < (s.size : Int) := by omega
 have e0 : (0 : Int) < (j : Int) + 1 := by omega
 have e2 : IntKind.i64.wrap ((j : Int) + 1 - 1) = (j : Int) := by rw [Int.add_sub_cancel]; exact IntWalk.i64_in _ (by omega)
 have e3 : 0 ≤ (j : Int) + 1 := by omega
 have e4 : ((j : Int) + 1).toNat = j + 1 := by omega
 clear hp32 hp91 hp123 hp44
 go_enter Tryz.func63, Tryz.ntmps63
 go_wp2
 go_ret
 exact ⟨rfl, rfl⟩
theorem begin_x_any (s : ByteArray) (j : Nat) (w : World) (hs : s.size ≤ 100000) (hk : j + 1 < s.size) (c p : UInt8) (hc : s[j + 1]'hk = c) (hj : j < s.size) (hpp : s[j]'hj = p) (hc35 : c ≠ 35) (hc34 : c ≠ 34) (hc39 : c ≠ 39) :
  Calls Tryz.prog 63 #[.string s, .int .i64 ((j : Int) + 1)] w fun e w' => e = .returned (.int .i64 0) ∧ w = w' := by
 have m35 : ((c.toNat : Int) == 35) = false := byte_beq c 35 false (decide_eq_false (by intro e; exact hc35 (UInt8.toNat_inj.1 e)))
 have n34 : ((c.toNat : Int) != 34) = true := byte_bne c 34 true (decide_eq_true (by intro e; exact hc34 (UInt8.toNat_inj.1 e)))
 have n39 : ((c.toNat : Int) != 39) = true := byte_bne c 39 true (decide_eq_true (by intro e; exact hc39 (UInt8.toNat_inj.1 e)))
 have hkz : (j : Int) + 1 < (s.size : Int) := by omega
 have hjz : (j : Int) < (s.size : Int) := by omega
 have e0 : (0 : Int) < (j : Int) + 1 := by omega
 have e2 : IntKind.i64.wrap ((j : Int) + 1 - 1) = (j : Int) := by rw [Int.add_sub_cancel]; exact IntWalk.i64_in _ (by omega)
 have e3 : 0 ≤ (j : Int) + 1 := by omega
 have e4 : ((j : Int) + 1).toNat = j + 1 := by omega
 clear hc35 hc34 hc39
 go_enter Tryz.func63, Tryz.ntmps63
 go_wp2
 go_ret
 exact ⟨rfl, rfl⟩
theorem begins_any (s : ByteArray) (k : Nat) (w : World) (hs : s.size ≤ 100000) (hk : k < s.size) (b : Int) (h : ((begK s.data.toList k : Nat) : Int) = b) :
  Calls Tryz.prog 63 #[.string s, .int .i64 (k : Int)] w fun e w' => e = .returned (.int .i64 b) ∧ w = w' := by
 obtain ⟨c, hc⟩ : ∃ c, s[k]'hk = c := ⟨_, rfl⟩
 have hg : s.data.toList.getD k 0 = c := (getd s k hk).trans hc
 subst h
 cases k with
 | zero =>
  have hp : prevB s.data.toList 0 = 32 := rfl
  by_cases h35 : c = 35
  ·have e : begK s.data.toList 0 = 2 := by rw [begK_mark (hg.trans h35), if_pos hp]
   rw [e]; exact begin0_35 s w hs hk c hc h35
  by_cases h34 : c = 34
  ·have e : begK s.data.toList 0 = 1 := by rw [begK_quote (by rw [hg]; exact .inl h34), if_pos (by rw [hp]; decide)]
   rw [e]; exact begin0_34 s w hs hk c hc h34
  by_cases h39 : c = 39
  ·have e : begK s.data.toList 0 = 1 := by rw [begK_quote (by rw [hg]; exact .inr h39), if_pos (by rw [hp]; decide)]
   rw [e]; exact begin0_39 s w hs hk c hc h39
  ·rw [begK_none hg h35 h34 h39]; exact begin0_x s w hs hk c hc h35 h34 h39
 | succ j =>
  have hj : j < s.size := by omega
  obtain ⟨p, hpp⟩ : ∃ p, s[j]'hj = p := ⟨_, rfl⟩
  have hp : prevB s.data.toList (j + 1) = p := by unfold prevB; rw [if_neg (by omega), Nat.add_sub_cancel]; exact (getd s j hj).trans hpp
  have kz : ((j + 1 : Nat) : Int) = (j : Int) + 1 := by omega
  rw [kz]
  by_cases h35 : c = 35
  ·rw [begK_mark (hg.trans h35), hp]
   by_cases h32 : p = 32
   ·rw [if_pos h32]; exact begin_35_32 s j w hs hk c p hc hj hpp h35 h32
   ·rw [if_neg h32]
    by_cases h91 : p = 91
    ·exact begin_35_91 s j w hs hk c p hc hj hpp h35 h91
    by_cases h123 : p = 123
    ·exact begin_35_123 s j w hs hk c p hc hj hpp h35 h123
    by_cases h44 : p = 44
    ·exact begin_35_44 s j w hs hk c p hc hj hpp h35 h44
    exact begin_35_x s j w hs hk c p hc hj hpp h35 h32 h91 h123 h44
  by_cases hq : c = 34 ∨ c = 39
  ·rw [begK_quote (by rw [hg]; exact hq), hp]
   by_cases h32 : p = 32
   ·rw [if_pos (by rw [h32]; decide)]
    rcases hq with h | h
    ·exact begin_34_32 s j w hs hk c p hc hj hpp h h32
    ·exact begin_39_32 s j w hs hk c p hc hj hpp h h32
   by_cases h91 : p = 91
   ·rw [if_pos (by rw [h91]; decide)]
    rcases hq with h | h
    ·exact begin_34_91 s j w hs hk c p hc hj hpp h h91
    ·exact begin_39_91 s j w hs hk c p hc hj hpp h h91
   by_cases h123 : p = 123
   ·rw [if_pos (by rw [h123]; decide)]
    rcases hq with h | h
    ·exact begin_34_123 s j w hs hk c p hc hj hpp h h123
    ·exact begin_39_123 s j w hs hk c p hc hj hpp h h123
   by_cases h44 : p = 44
   ·rw [if_pos (by rw [h44]; decide)]
    rcases hq with h | h
    ·exact begin_34_44 s j w hs hk c p hc hj hpp h h44
    ·exact begin_39_44 s j w hs hk c p hc hj hpp h h44
   have ho : ¬ opens p = true := by
    unfold opens
    rw [decide_eq_false h32, decide_eq_false h91, decide_eq_false h123, decide_eq_false h44]; decide
   rw [if_neg ho]
   rcases hq with h | h
   ·exact begin_34_x s j w hs hk c p hc hj hpp h h32 h91 h123 h44
   ·exact begin_39_x s j w hs hk c p hc hj hpp h h32 h91 h123 h44
  ·rw [begK_none hg h35 (fun e => hq (.inl e)) (fun e => hq (.inr e))]
   exact begin_x_any s j w hs hk c p hc hj hpp h35 (fun e => hq (.inl e)) (fun e => hq (.inr e))
end
section
open Go.RowKit Go.Sort
open Q6
theorem trimN_succ (l : List UInt8) (n : Nat) : trimN l (n + 1) = if l.getD n 0 = 32 then trimN l n else n + 1 := rfl
def outS (l : List UInt8) (R : Option Nat) : List UInt8 := match R with | some e => l.take (trimN l e) | none => []
def outSB (R : Option Nat) : Bool := R.isSome
theorem Say_any (s : ByteArray) (w : World) (hs : s.size ≤ 100000) (q : ByteArray) (b : Bool) (hq : outS s.data.toList (endAt s.data.toList 0) = q.data.toList) (hb : outSB (endAt s.data.toList 0) = b) :
  Calls Tryz.prog 37 #[.string s] w fun e w' => e = .returned (.tuple #[.string q, .bool b]) ∧ Below w.heap.size w w' := by
 obtain ⟨R, hR⟩ : ∃ R, endAt s.data.toList 0 = R := ⟨_, rfl⟩
 rw [hR] at hq hb
 have HOUT : Hid (outS s.data.toList R = q.data.toList ∧ outSB R = b) := hid ⟨hq, hb⟩
 have HR0 := hid hR
 clear hq hb hR
 have HLEN := hid (len_eq s)
 obtain ⟨n, hn⟩ : ∃ n, s.size = n := ⟨_, rfl⟩
 have hsn : n ≤ 100000 := by omega
 go_enter Tryz.func37, Tryz.ntmps37
 go_wp2
 go_loopw [0, 4] (fun s0 si wr => ∃ k : Nat, k ≤ n ∧ s0 = .string s ∧ si = .int .i64 (k : Int) ∧ Hid (Below w.heap.size w wr) ∧ Hid (endAt s.data.toList k = R)) (fun _ si _ => n - (intOf si).toNat)
 case atStart => exact ⟨0, Nat.zero_le _, rfl, rfl, hid (Below.refl _ _), HR0⟩
 case round =>
  clear HR0
  obtain ⟨k, hk, rfl, rfl, HB, HR⟩ := hrel
  by_cases hlt : k < n
  ·have hks : k < s.size := by omega
   have hkl : k < s.data.toList.length := by rw [HLEN.out]; exact hks
   have hskz : (k : Int) < (n : Int) := by omega
   have HKL := hid hkl
   obtain ⟨c, hc⟩ : ∃ c, s[k]'hks = c := ⟨_, rfl⟩
   have HG : Hid (s.data.toList.getD k 0 = c) := hid ((getd s k hks).trans hc)
   clear hkl
   rcases begK_cases s.data.toList k with hb | hb | hb
   ·have HC := hid (fun w0 => begins_any s k w0 hs hks 0 (by rw [hb]; rfl))
    rcases Bool.eq_false_or_eq_true (good c) with hg | hg
    ·have HN := hid ((endAt_next HKL.out hb (by rw [HG.out]; exact hg)).symm.trans HR.out)
     have HP := hid (fun w0 => Good_q c true w0 hg)
     clear hb hg
     go_wp2_with (first | (go_at_call 63; refine (HC.out _).mono ?_; rintro e w' ⟨rfl, rfl⟩) | (go_at_call 50; refine (HP.out _).mono ?_; rintro e w' ⟨rfl, rfl⟩))
     go_roundw
     case rel => exact ⟨k + 1, by omega, rfl, by go_num, HB, HN⟩
     case measure => simp [intOf]; omega
    ·have HE := hid (HR.out.symm.trans (endAt_raw HKL.out hb (by rw [HG.out]; exact hg)))
     have HP := hid (fun w0 => Good_q c false w0 hg)
     clear hb hg
     go_wp2_with (first | (go_at_call 63; refine (HC.out _).mono ?_; rintro e w' ⟨rfl, rfl⟩) | (go_at_call 50; refine (HP.out _).mono ?_; rintro e w' ⟨rfl, rfl⟩))
     go_ret2
     exact ⟨ret_sb (bytes_ext (by rw [← HOUT.out.1, HE.out]; rfl)) (by rw [← HOUT.out.2, HE.out]; rfl), HB.out⟩
   ·have HC := hid (fun w0 => begins_any s k w0 hs hks 1 (by rw [hb]; rfl))
    rcases scanE_cases s.data.toList k with hse | ⟨v, m, hse, hv, hm, hkm, hml⟩
    ·have HE := hid (HR.out.symm.trans (endAt_bad HKL.out hb hse))
     obtain ⟨q2, hqq⟩ : ∃ q : ByteArray, scanV s.data.toList (k : Int) = q.data.toList := ⟨⟨(scanV s.data.toList (k : Int)).toArray⟩, by simp⟩
     obtain ⟨X, hX⟩ : ∃ X, scanN s.data.toList (k : Int) = X := ⟨_, rfl⟩
     obtain ⟨Y, hY⟩ : ∃ Y, scanE s.data.toList (k : Int) = Y := ⟨_, rfl⟩
     have HSC := hid (fun w0 => RScan_any s (k : Int) w0 hs (by omega) (by omega) q2 X Y hqq hX hY)
     have y0 : (Y != 0) = true := bne_iff_ne.2 (by rw [← hY]; exact hse)
     clear hse hqq hX hY hb
     go_wp2_with fail
     refine (HC.out _).mono ?_
     rintro e w' ⟨rfl, rfl⟩
     go_wp2_with fail
     refine (HSC.out _).mono ?_
     rintro e w2 ⟨rfl, hb2⟩
     have HB2 := hid (HB.out.trans (hb2.mono HB.out.size))
     clear hb2
     go_wp2
     go_ret2
     exact ⟨ret_sb (bytes_ext (by rw [← HOUT.out.1, HE.out]; rfl)) (by rw [← HOUT.out.2, HE.out]; rfl), HB2.out⟩
    ·have HN := hid ((endAt_quote HKL.out hb hse hm hkm).symm.trans HR.out)
     obtain ⟨q2, hqq⟩ : ∃ q : ByteArray, scanV s.data.toList (k : Int) = q.data.toList := ⟨⟨(scanV s.data.toList (k : Int)).toArray⟩, by simp⟩
     have HSC := hid (fun w0 => RScan_any s (k : Int) w0 hs (by omega) (by omega) q2 (m : Int) 0 hqq hm hse)
     have hmn : m ≤ n := by rw [HLEN.out, hn] at hml; exact hml
     clear hse hqq hm hb hv hml
     go_wp2_with fail
     refine (HC.out _).mono ?_
     rintro e w' ⟨rfl, rfl⟩
     go_wp2_with fail
     refine (HSC.out _).mono ?_
     rintro e w2 ⟨rfl, hb2⟩
     have HB2 := hid (HB.out.trans (hb2.mono HB.out.size))
     clear hb2
     go_wp2
     go_roundw
     case rel => exact ⟨m, hmn, rfl, rfl, HB2, HN⟩
     case measure => simp [intOf]; omega
   ·have HC := hid (fun w0 => begins_any s k w0 hs hks 2 (by rw [hb]; rfl))
    have HE := hid (HR.out.symm.trans (endAt_mark HKL.out hb))
    have HD : Hid ((s.extract 0 k).data.toList = s.data.toList.take k) := hid (upto_data s k)
    have HSZ : Hid ((s.extract 0 k).size = k) := hid (by rw [ByteArray.size_extract]; omega)
    have hskz' : (k : Int) ≤ (n : Int) := by omega
    clear hb hc
    go_wp2_with (go_at_call 63; refine (HC.out _).mono ?_; rintro e w' ⟨rfl, rfl⟩)
    go_loop [0] (fun s0 => ∃ (m : Nat) (u : ByteArray), m ≤ n ∧ s0 = .string u ∧ u.size = m ∧ Hid (u.data.toList = s.data.toList.take m ∧ trimN s.data.toList m = trimN s.data.toList k)) (fun s0 => Lib.strSize s0)
    case atStart => exact ⟨k, _, hk, rfl, HSZ.out, hid ⟨HD.out, rfl⟩⟩
    case round =>
     obtain ⟨m, u, hm, rfl, hum, HU⟩ := hrel
     cases m with
     | zero =>
      have hu0 : u.data.toList = [] := by rw [HU.out.1]; rfl
      obtain rfl := bytes_of (l := #[]) hu0
      have HT := hid HU.out.2
      clear hum HU hu0
      go_wp2
      go_ret2
      refine ⟨ret_sb (bytes_ext ?_) ?_, HB.out⟩
      ·rw [← HOUT.out.1, HE.out]
       show [] = s.data.toList.take (trimN s.data.toList k)
       rw [← HT.out]; rfl
      ·rw [← HOUT.out.2, HE.out]; rfl
     | succ j =>
      have hju : j < u.size := by omega
      obtain ⟨d, hd⟩ : ∃ d, u[j]'hju = d := ⟨_, rfl⟩
      have hgd : s.data.toList.getD j 0 = d := by
       have h1 := (getd u j hju).trans hd
       rw [HU.out.1, getD_take (Nat.lt_succ_self j)] at h1
       exact h1
      have e0 : (0 : Int) < (j : Int) + 1 := by omega
      have e2 : IntKind.i64.wrap ((j : Int) + 1 - 1) = (j : Int) := by rw [Int.add_sub_cancel]; exact IntWalk.i64_in _ (by omega)
      have ejz : (j : Int) < (j : Int) + 1 := by omega
      have ejz' : (j : Int) ≤ (j : Int) + 1 := by omega
      by_cases h32 : d = 32
      ·have m32 : ((d.toNat : Int) == 32) = true := byte_beq d 32 true (by rw [h32]; decide)
       have HT : Hid (trimN s.data.toList j = trimN s.data.toList k) := hid (by
        have := HU.out.2
        rw [trimN_succ] at this
        rw [if_pos (hgd.trans h32)] at this; exact this)
       have HD : Hid ((u.extract 0 j).data.toList = s.data.toList.take j) := hid (by rw [upto_data, HU.out.1, List.take_take, Nat.min_eq_left (by omega)])
       have HS : Hid ((u.extract 0 j).size = j) := hid (by rw [ByteArray.size_extract]; omega)
       clear h32 hgd
       go_wp2
       go_round
       case rel => exact ⟨j, u.extract 0 j, by omega, rfl, HS.out, hid ⟨HD.out, HT.out⟩⟩
       case measure => simp [Lib.strSize]; omega
      ·have m32 : ((d.toNat : Int) == 32) = false := byte_beq d 32 false (decide_eq_false (fun e => h32 (UInt8.toNat_inj.1 e)))
       have HT : Hid (j + 1 = trimN s.data.toList k) := hid (by
        have := HU.out.2
        rw [trimN_succ] at this
        rw [if_neg (fun e => h32 (hgd.symm.trans e))] at this; exact this)
       have HD := hid HU.out.1
       clear h32 hgd HU
       go_wp2
       go_ret2
       refine ⟨ret_sb (bytes_ext ?_) ?_, HB.out⟩
       ·rw [← HOUT.out.1, HE.out, HD.out, HT.out]; rfl
       ·rw [← HOUT.out.2, HE.out]; rfl
  ·obtain rfl : k = n := by omega
   have HE := hid (HR.out.symm.trans (endAt_out (by rw [HLEN.out, hn]; exact Nat.le_refl _)))
   rw [HLEN.out, hn] at HE
   have HD : Hid (s.data.toList = s.data.toList.take k) := hid (by rw [List.take_of_length_le (by rw [HLEN.out, hn]; exact Nat.le_refl _)])
   go_wp2
   go_loop [0] (fun s0 => ∃ (m : Nat) (u : ByteArray), m ≤ k ∧ s0 = .string u ∧ u.size = m ∧ Hid (u.data.toList = s.data.toList.take m ∧ trimN s.data.toList m = trimN s.data.toList k)) (fun s0 => Lib.strSize s0)
   case atStart => exact ⟨k, _, Nat.le_refl _, rfl, hn, hid ⟨HD.out, rfl⟩⟩
   case round =>
    obtain ⟨m, u, hm, rfl, hum, HU⟩ := hrel
    cases m with
    | zero =>
     have hu0 : u.data.toList = [] := by rw [HU.out.1]; rfl
     obtain rfl := bytes_of (l := #[]) hu0
     have HT := hid HU.out.2
     clear hum HU hu0
     go_wp2
     go_ret2
     refine ⟨ret_sb (bytes_ext ?_) ?_, HB.out⟩
     ·rw [← HOUT.out.1, HE.out]
      show [] = s.data.toList.take (trimN s.data.toList k)
      rw [← HT.out]; rfl
     ·rw [← HOUT.out.2, HE.out]; rfl
    | succ j =>
     have hju : j < u.size := by omega
     obtain ⟨d, hd⟩ : ∃ d, u[j]'hju = d := ⟨_, rfl⟩
     have hgd : s.data.toList.getD j 0 = d := by
      have h1 := (getd u j hju).trans hd
      rw [HU.out.1, getD_take (Nat.lt_succ_self j)] at h1
      exact h1
     have e0 : (0 : Int) < (j : Int) + 1 := by omega
     have e2 : IntKind.i64.wrap ((j : Int) + 1 - 1) = (j : Int) := by rw [Int.add_sub_cancel]; exact IntWalk.i64_in _ (by omega)
     have ejz : (j : Int) < (j : Int) + 1 := by omega
     have ejz' : (j : Int) ≤ (j : Int) + 1 := by omega
     by_cases h32 : d = 32
     ·have m32 : ((d.toNat : Int) == 32) = true := byte_beq d 32 true (by rw [h32]; decide)
      have HT : Hid (trimN s.data.toList j = trimN s.data.toList k) := hid (by
       have := HU.out.2
       rw [trimN_succ] at this
       rw [if_pos (hgd.trans h32)] at this; exact this)
      have HD : Hid ((u.extract 0 j).data.toList = s.data.toList.take j) := hid (by rw [upto_data, HU.out.1, List.take_take, Nat.min_eq_left (by omega)])
      have HS : Hid ((u.extract 0 j).size = j) := hid (by rw [ByteArray.size_extract]; omega)
      clear h32 hgd
      go_wp2
      go_round
      case rel => exact ⟨j, u.extract 0 j, by omega, rfl, HS.out, hid ⟨HD.out, HT.out⟩⟩
      case measure => simp [Lib.strSize]; omega
     ·have m32 : ((d.toNat : Int) == 32) = false := byte_beq d 32 false (decide_eq_false (fun e => h32 (UInt8.toNat_inj.1 e)))
      have HT : Hid (j + 1 = trimN s.data.toList k) := hid (by
       have := HU.out.2
       rw [trimN_succ] at this
       rw [if_neg (fun e => h32 (hgd.symm.trans e))] at this; exact this)
      have HD := hid HU.out.1
      clear h32 hgd HU
      go_wp2
      go_ret2
      refine ⟨ret_sb (bytes_ext ?_) ?_, HB.out⟩
      ·rw [← HOUT.out.1, HE.out, HD.out, HT.out]; rfl
      ·rw [← HOUT.out.2, HE.out]; rfl
end
end Go.Proofs.YtecglpocmhkkiaaGreatDoor
