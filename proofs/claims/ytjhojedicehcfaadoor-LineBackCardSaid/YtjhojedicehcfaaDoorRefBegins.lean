/- The contract of the document's own begins. -/
import Derived.Test.YtjhojedicehcfaaDoorRefScan
import Derived.Test.YtjhojedicehcfaaDoorLinCon
namespace Go.Proofs.YtjhojedicehcfaaDoor
open Go.RowKit
open Q6
set_option linter.unusedVariables false
theorem byte_beq (c : UInt8) (k : Nat) (b : Bool) (h : decide (c.toNat = k) = b) : ((c.toNat : Int) == (k : Int)) = b := by
  subst h
  rw [Bool.eq_iff_iff, beq_iff_eq, decide_eq_true_eq]; omega
theorem byte_bne (c : UInt8) (k : Nat) (b : Bool) (h : decide (c.toNat ≠ k) = b) : ((c.toNat : Int) != (k : Int)) = b := by
  subst h
  rw [Bool.eq_iff_iff, bne_iff_ne, decide_eq_true_eq]; omega
set_option maxHeartbeats 800000 in
theorem begin0_35 (s : ByteArray) (w : World) (hs : s.size ≤ 100000) (hk : 0 < s.size) (c : UInt8) (hc : s[0]'hk = c) (hc : c = 35) :
    Calls Tryd.prog 24 #[.string s, .int .i64 0] w fun e w' => e = .returned (.int .i64 2) ∧ w = w' := by
  have m35 : ((c.toNat : Int) == 35) = true := byte_beq c 35 true (by rw [hc]; decide)
  have n34 : ((c.toNat : Int) != 34) = true := byte_bne c 34 true (decide_eq_true (by rw [hc]; decide))
  have n39 : ((c.toNat : Int) != 39) = true := byte_bne c 39 true (decide_eq_true (by rw [hc]; decide))
  have hkz : (0 : Int) < (s.size : Int) := by omega
  go_enter Tryd.func24, Tryd.ntmps24
  go_wp2
  go_ret
  exact ⟨rfl, rfl⟩
set_option maxHeartbeats 800000 in
theorem begin0_34 (s : ByteArray) (w : World) (hs : s.size ≤ 100000) (hk : 0 < s.size) (c : UInt8) (hc : s[0]'hk = c) (hc : c = 34) :
    Calls Tryd.prog 24 #[.string s, .int .i64 0] w fun e w' => e = .returned (.int .i64 1) ∧ w = w' := by
  have m35 : ((c.toNat : Int) == 35) = false := byte_beq c 35 false (decide_eq_false (by rw [hc]; decide))
  have n34 : ((c.toNat : Int) != 34) = false := byte_bne c 34 false (by rw [hc]; decide)
  have n39 : ((c.toNat : Int) != 39) = true := byte_bne c 39 true (decide_eq_true (by rw [hc]; decide))
  have hkz : (0 : Int) < (s.size : Int) := by omega
  go_enter Tryd.func24, Tryd.ntmps24
  go_wp2
  go_ret
  exact ⟨rfl, rfl⟩
set_option maxHeartbeats 800000 in
theorem begin0_39 (s : ByteArray) (w : World) (hs : s.size ≤ 100000) (hk : 0 < s.size) (c : UInt8) (hc : s[0]'hk = c) (hc : c = 39) :
    Calls Tryd.prog 24 #[.string s, .int .i64 0] w fun e w' => e = .returned (.int .i64 1) ∧ w = w' := by
  have m35 : ((c.toNat : Int) == 35) = false := byte_beq c 35 false (decide_eq_false (by rw [hc]; decide))
  have n34 : ((c.toNat : Int) != 34) = true := byte_bne c 34 true (decide_eq_true (by rw [hc]; decide))
  have n39 : ((c.toNat : Int) != 39) = false := byte_bne c 39 false (by rw [hc]; decide)
  have hkz : (0 : Int) < (s.size : Int) := by omega
  go_enter Tryd.func24, Tryd.ntmps24
  go_wp2
  go_ret
  exact ⟨rfl, rfl⟩
set_option maxHeartbeats 800000 in
theorem begin0_x (s : ByteArray) (w : World) (hs : s.size ≤ 100000) (hk : 0 < s.size) (c : UInt8) (hc : s[0]'hk = c) (hc35 : c ≠ 35) (hc34 : c ≠ 34) (hc39 : c ≠ 39) :
    Calls Tryd.prog 24 #[.string s, .int .i64 0] w fun e w' => e = .returned (.int .i64 0) ∧ w = w' := by
  have m35 : ((c.toNat : Int) == 35) = false := byte_beq c 35 false (decide_eq_false (by intro e; exact hc35 (UInt8.toNat_inj.1 e)))
  have n34 : ((c.toNat : Int) != 34) = true := byte_bne c 34 true (decide_eq_true (by intro e; exact hc34 (UInt8.toNat_inj.1 e)))
  have n39 : ((c.toNat : Int) != 39) = true := byte_bne c 39 true (decide_eq_true (by intro e; exact hc39 (UInt8.toNat_inj.1 e)))
  have hkz : (0 : Int) < (s.size : Int) := by omega
  clear hc35 hc34 hc39
  go_enter Tryd.func24, Tryd.ntmps24
  go_wp2
  go_ret
  exact ⟨rfl, rfl⟩
set_option maxHeartbeats 800000 in
theorem begin_35_32 (s : ByteArray) (j : Nat) (w : World) (hs : s.size ≤ 100000) (hk : j + 1 < s.size) (c p : UInt8) (hc : s[j + 1]'hk = c) (hj : j < s.size) (hpp : s[j]'hj = p) (hc : c = 35) (hp : p = 32) :
    Calls Tryd.prog 24 #[.string s, .int .i64 ((j : Int) + 1)] w fun e w' => e = .returned (.int .i64 2) ∧ w = w' := by
  have m35 : ((c.toNat : Int) == 35) = true := byte_beq c 35 true (by rw [hc]; decide)
  have n34 : ((c.toNat : Int) != 34) = true := byte_bne c 34 true (decide_eq_true (by rw [hc]; decide))
  have n39 : ((c.toNat : Int) != 39) = true := byte_bne c 39 true (decide_eq_true (by rw [hc]; decide))
  have q32 : ((p.toNat : Int) == 32) = true := byte_beq p 32 true (by rw [hp]; decide)
  have q91 : ((p.toNat : Int) == 91) = false := byte_beq p 91 false (decide_eq_false (by rw [hp]; decide))
  have q123 : ((p.toNat : Int) == 123) = false := byte_beq p 123 false (decide_eq_false (by rw [hp]; decide))
  have q44 : ((p.toNat : Int) == 44) = false := byte_beq p 44 false (decide_eq_false (by rw [hp]; decide))
  have hkz : (j : Int) + 1 < (s.size : Int) := by omega
  have hjz : (j : Int) < (s.size : Int) := by omega
  have e0 : (0 : Int) < (j : Int) + 1 := by omega
  have e2 : IntKind.i64.wrap ((j : Int) + 1 - 1) = (j : Int) := by rw [Int.add_sub_cancel]; exact IntWalk.i64_in _ (by omega)
  have e3 : 0 ≤ (j : Int) + 1 := by omega
  have e4 : ((j : Int) + 1).toNat = j + 1 := by omega
  go_enter Tryd.func24, Tryd.ntmps24
  go_wp2
  go_ret
  exact ⟨rfl, rfl⟩
set_option maxHeartbeats 800000 in
theorem begin_35_91 (s : ByteArray) (j : Nat) (w : World) (hs : s.size ≤ 100000) (hk : j + 1 < s.size) (c p : UInt8) (hc : s[j + 1]'hk = c) (hj : j < s.size) (hpp : s[j]'hj = p) (hc : c = 35) (hp : p = 91) :
    Calls Tryd.prog 24 #[.string s, .int .i64 ((j : Int) + 1)] w fun e w' => e = .returned (.int .i64 0) ∧ w = w' := by
  have m35 : ((c.toNat : Int) == 35) = true := byte_beq c 35 true (by rw [hc]; decide)
  have n34 : ((c.toNat : Int) != 34) = true := byte_bne c 34 true (decide_eq_true (by rw [hc]; decide))
  have n39 : ((c.toNat : Int) != 39) = true := byte_bne c 39 true (decide_eq_true (by rw [hc]; decide))
  have q32 : ((p.toNat : Int) == 32) = false := byte_beq p 32 false (decide_eq_false (by rw [hp]; decide))
  have q91 : ((p.toNat : Int) == 91) = true := byte_beq p 91 true (by rw [hp]; decide)
  have q123 : ((p.toNat : Int) == 123) = false := byte_beq p 123 false (decide_eq_false (by rw [hp]; decide))
  have q44 : ((p.toNat : Int) == 44) = false := byte_beq p 44 false (decide_eq_false (by rw [hp]; decide))
  have hkz : (j : Int) + 1 < (s.size : Int) := by omega
  have hjz : (j : Int) < (s.size : Int) := by omega
  have e0 : (0 : Int) < (j : Int) + 1 := by omega
  have e2 : IntKind.i64.wrap ((j : Int) + 1 - 1) = (j : Int) := by rw [Int.add_sub_cancel]; exact IntWalk.i64_in _ (by omega)
  have e3 : 0 ≤ (j : Int) + 1 := by omega
  have e4 : ((j : Int) + 1).toNat = j + 1 := by omega
  go_enter Tryd.func24, Tryd.ntmps24
  go_wp2
  go_ret
  exact ⟨rfl, rfl⟩
set_option maxHeartbeats 800000 in
theorem begin_35_123 (s : ByteArray) (j : Nat) (w : World) (hs : s.size ≤ 100000) (hk : j + 1 < s.size) (c p : UInt8) (hc : s[j + 1]'hk = c) (hj : j < s.size) (hpp : s[j]'hj = p) (hc : c = 35) (hp : p = 123) :
    Calls Tryd.prog 24 #[.string s, .int .i64 ((j : Int) + 1)] w fun e w' => e = .returned (.int .i64 0) ∧ w = w' := by
  have m35 : ((c.toNat : Int) == 35) = true := byte_beq c 35 true (by rw [hc]; decide)
  have n34 : ((c.toNat : Int) != 34) = true := byte_bne c 34 true (decide_eq_true (by rw [hc]; decide))
  have n39 : ((c.toNat : Int) != 39) = true := byte_bne c 39 true (decide_eq_true (by rw [hc]; decide))
  have q32 : ((p.toNat : Int) == 32) = false := byte_beq p 32 false (decide_eq_false (by rw [hp]; decide))
  have q91 : ((p.toNat : Int) == 91) = false := byte_beq p 91 false (decide_eq_false (by rw [hp]; decide))
  have q123 : ((p.toNat : Int) == 123) = true := byte_beq p 123 true (by rw [hp]; decide)
  have q44 : ((p.toNat : Int) == 44) = false := byte_beq p 44 false (decide_eq_false (by rw [hp]; decide))
  have hkz : (j : Int) + 1 < (s.size : Int) := by omega
  have hjz : (j : Int) < (s.size : Int) := by omega
  have e0 : (0 : Int) < (j : Int) + 1 := by omega
  have e2 : IntKind.i64.wrap ((j : Int) + 1 - 1) = (j : Int) := by rw [Int.add_sub_cancel]; exact IntWalk.i64_in _ (by omega)
  have e3 : 0 ≤ (j : Int) + 1 := by omega
  have e4 : ((j : Int) + 1).toNat = j + 1 := by omega
  go_enter Tryd.func24, Tryd.ntmps24
  go_wp2
  go_ret
  exact ⟨rfl, rfl⟩
set_option maxHeartbeats 800000 in
theorem begin_35_44 (s : ByteArray) (j : Nat) (w : World) (hs : s.size ≤ 100000) (hk : j + 1 < s.size) (c p : UInt8) (hc : s[j + 1]'hk = c) (hj : j < s.size) (hpp : s[j]'hj = p) (hc : c = 35) (hp : p = 44) :
    Calls Tryd.prog 24 #[.string s, .int .i64 ((j : Int) + 1)] w fun e w' => e = .returned (.int .i64 0) ∧ w = w' := by
  have m35 : ((c.toNat : Int) == 35) = true := byte_beq c 35 true (by rw [hc]; decide)
  have n34 : ((c.toNat : Int) != 34) = true := byte_bne c 34 true (decide_eq_true (by rw [hc]; decide))
  have n39 : ((c.toNat : Int) != 39) = true := byte_bne c 39 true (decide_eq_true (by rw [hc]; decide))
  have q32 : ((p.toNat : Int) == 32) = false := byte_beq p 32 false (decide_eq_false (by rw [hp]; decide))
  have q91 : ((p.toNat : Int) == 91) = false := byte_beq p 91 false (decide_eq_false (by rw [hp]; decide))
  have q123 : ((p.toNat : Int) == 123) = false := byte_beq p 123 false (decide_eq_false (by rw [hp]; decide))
  have q44 : ((p.toNat : Int) == 44) = true := byte_beq p 44 true (by rw [hp]; decide)
  have hkz : (j : Int) + 1 < (s.size : Int) := by omega
  have hjz : (j : Int) < (s.size : Int) := by omega
  have e0 : (0 : Int) < (j : Int) + 1 := by omega
  have e2 : IntKind.i64.wrap ((j : Int) + 1 - 1) = (j : Int) := by rw [Int.add_sub_cancel]; exact IntWalk.i64_in _ (by omega)
  have e3 : 0 ≤ (j : Int) + 1 := by omega
  have e4 : ((j : Int) + 1).toNat = j + 1 := by omega
  go_enter Tryd.func24, Tryd.ntmps24
  go_wp2
  go_ret
  exact ⟨rfl, rfl⟩
set_option maxHeartbeats 800000 in
theorem begin_35_x (s : ByteArray) (j : Nat) (w : World) (hs : s.size ≤ 100000) (hk : j + 1 < s.size) (c p : UInt8) (hc : s[j + 1]'hk = c) (hj : j < s.size) (hpp : s[j]'hj = p) (hc : c = 35) (hp32 : p ≠ 32) (hp91 : p ≠ 91) (hp123 : p ≠ 123) (hp44 : p ≠ 44) :
    Calls Tryd.prog 24 #[.string s, .int .i64 ((j : Int) + 1)] w fun e w' => e = .returned (.int .i64 0) ∧ w = w' := by
  have m35 : ((c.toNat : Int) == 35) = true := byte_beq c 35 true (by rw [hc]; decide)
  have n34 : ((c.toNat : Int) != 34) = true := byte_bne c 34 true (decide_eq_true (by rw [hc]; decide))
  have n39 : ((c.toNat : Int) != 39) = true := byte_bne c 39 true (decide_eq_true (by rw [hc]; decide))
  have q32 : ((p.toNat : Int) == 32) = false := byte_beq p 32 false (decide_eq_false (by intro e; exact hp32 (UInt8.toNat_inj.1 e)))
  have q91 : ((p.toNat : Int) == 91) = false := byte_beq p 91 false (decide_eq_false (by intro e; exact hp91 (UInt8.toNat_inj.1 e)))
  have q123 : ((p.toNat : Int) == 123) = false := byte_beq p 123 false (decide_eq_false (by intro e; exact hp123 (UInt8.toNat_inj.1 e)))
  have q44 : ((p.toNat : Int) == 44) = false := byte_beq p 44 false (decide_eq_false (by intro e; exact hp44 (UInt8.toNat_inj.1 e)))
  have hkz : (j : Int) + 1 < (s.size : Int) := by omega
  have hjz : (j : Int) < (s.size : Int) := by omega
  have e0 : (0 : Int) < (j : Int) + 1 := by omega
  have e2 : IntKind.i64.wrap ((j : Int) + 1 - 1) = (j : Int) := by rw [Int.add_sub_cancel]; exact IntWalk.i64_in _ (by omega)
  have e3 : 0 ≤ (j : Int) + 1 := by omega
  have e4 : ((j : Int) + 1).toNat = j + 1 := by omega
  clear hp32 hp91 hp123 hp44
  go_enter Tryd.func24, Tryd.ntmps24
  go_wp2
  go_ret
  exact ⟨rfl, rfl⟩
set_option maxHeartbeats 800000 in
theorem begin_34_32 (s : ByteArray) (j : Nat) (w : World) (hs : s.size ≤ 100000) (hk : j + 1 < s.size) (c p : UInt8) (hc : s[j + 1]'hk = c) (hj : j < s.size) (hpp : s[j]'hj = p) (hc : c = 34) (hp : p = 32) :
    Calls Tryd.prog 24 #[.string s, .int .i64 ((j : Int) + 1)] w fun e w' => e = .returned (.int .i64 1) ∧ w = w' := by
  have m35 : ((c.toNat : Int) == 35) = false := byte_beq c 35 false (decide_eq_false (by rw [hc]; decide))
  have n34 : ((c.toNat : Int) != 34) = false := byte_bne c 34 false (by rw [hc]; decide)
  have n39 : ((c.toNat : Int) != 39) = true := byte_bne c 39 true (decide_eq_true (by rw [hc]; decide))
  have q32 : ((p.toNat : Int) == 32) = true := byte_beq p 32 true (by rw [hp]; decide)
  have q91 : ((p.toNat : Int) == 91) = false := byte_beq p 91 false (decide_eq_false (by rw [hp]; decide))
  have q123 : ((p.toNat : Int) == 123) = false := byte_beq p 123 false (decide_eq_false (by rw [hp]; decide))
  have q44 : ((p.toNat : Int) == 44) = false := byte_beq p 44 false (decide_eq_false (by rw [hp]; decide))
  have hkz : (j : Int) + 1 < (s.size : Int) := by omega
  have hjz : (j : Int) < (s.size : Int) := by omega
  have e0 : (0 : Int) < (j : Int) + 1 := by omega
  have e2 : IntKind.i64.wrap ((j : Int) + 1 - 1) = (j : Int) := by rw [Int.add_sub_cancel]; exact IntWalk.i64_in _ (by omega)
  have e3 : 0 ≤ (j : Int) + 1 := by omega
  have e4 : ((j : Int) + 1).toNat = j + 1 := by omega
  go_enter Tryd.func24, Tryd.ntmps24
  go_wp2
  go_ret
  exact ⟨rfl, rfl⟩
set_option maxHeartbeats 800000 in
theorem begin_34_91 (s : ByteArray) (j : Nat) (w : World) (hs : s.size ≤ 100000) (hk : j + 1 < s.size) (c p : UInt8) (hc : s[j + 1]'hk = c) (hj : j < s.size) (hpp : s[j]'hj = p) (hc : c = 34) (hp : p = 91) :
    Calls Tryd.prog 24 #[.string s, .int .i64 ((j : Int) + 1)] w fun e w' => e = .returned (.int .i64 1) ∧ w = w' := by
  have m35 : ((c.toNat : Int) == 35) = false := byte_beq c 35 false (decide_eq_false (by rw [hc]; decide))
  have n34 : ((c.toNat : Int) != 34) = false := byte_bne c 34 false (by rw [hc]; decide)
  have n39 : ((c.toNat : Int) != 39) = true := byte_bne c 39 true (decide_eq_true (by rw [hc]; decide))
  have q32 : ((p.toNat : Int) == 32) = false := byte_beq p 32 false (decide_eq_false (by rw [hp]; decide))
  have q91 : ((p.toNat : Int) == 91) = true := byte_beq p 91 true (by rw [hp]; decide)
  have q123 : ((p.toNat : Int) == 123) = false := byte_beq p 123 false (decide_eq_false (by rw [hp]; decide))
  have q44 : ((p.toNat : Int) == 44) = false := byte_beq p 44 false (decide_eq_false (by rw [hp]; decide))
  have hkz : (j : Int) + 1 < (s.size : Int) := by omega
  have hjz : (j : Int) < (s.size : Int) := by omega
  have e0 : (0 : Int) < (j : Int) + 1 := by omega
  have e2 : IntKind.i64.wrap ((j : Int) + 1 - 1) = (j : Int) := by rw [Int.add_sub_cancel]; exact IntWalk.i64_in _ (by omega)
  have e3 : 0 ≤ (j : Int) + 1 := by omega
  have e4 : ((j : Int) + 1).toNat = j + 1 := by omega
  go_enter Tryd.func24, Tryd.ntmps24
  go_wp2
  go_ret
  exact ⟨rfl, rfl⟩
set_option maxHeartbeats 800000 in
theorem begin_34_123 (s : ByteArray) (j : Nat) (w : World) (hs : s.size ≤ 100000) (hk : j + 1 < s.size) (c p : UInt8) (hc : s[j + 1]'hk = c) (hj : j < s.size) (hpp : s[j]'hj = p) (hc : c = 34) (hp : p = 123) :
    Calls Tryd.prog 24 #[.string s, .int .i64 ((j : Int) + 1)] w fun e w' => e = .returned (.int .i64 1) ∧ w = w' := by
  have m35 : ((c.toNat : Int) == 35) = false := byte_beq c 35 false (decide_eq_false (by rw [hc]; decide))
  have n34 : ((c.toNat : Int) != 34) = false := byte_bne c 34 false (by rw [hc]; decide)
  have n39 : ((c.toNat : Int) != 39) = true := byte_bne c 39 true (decide_eq_true (by rw [hc]; decide))
  have q32 : ((p.toNat : Int) == 32) = false := byte_beq p 32 false (decide_eq_false (by rw [hp]; decide))
  have q91 : ((p.toNat : Int) == 91) = false := byte_beq p 91 false (decide_eq_false (by rw [hp]; decide))
  have q123 : ((p.toNat : Int) == 123) = true := byte_beq p 123 true (by rw [hp]; decide)
  have q44 : ((p.toNat : Int) == 44) = false := byte_beq p 44 false (decide_eq_false (by rw [hp]; decide))
  have hkz : (j : Int) + 1 < (s.size : Int) := by omega
  have hjz : (j : Int) < (s.size : Int) := by omega
  have e0 : (0 : Int) < (j : Int) + 1 := by omega
  have e2 : IntKind.i64.wrap ((j : Int) + 1 - 1) = (j : Int) := by rw [Int.add_sub_cancel]; exact IntWalk.i64_in _ (by omega)
  have e3 : 0 ≤ (j : Int) + 1 := by omega
  have e4 : ((j : Int) + 1).toNat = j + 1 := by omega
  go_enter Tryd.func24, Tryd.ntmps24
  go_wp2
  go_ret
  exact ⟨rfl, rfl⟩
set_option maxHeartbeats 800000 in
theorem begin_34_44 (s : ByteArray) (j : Nat) (w : World) (hs : s.size ≤ 100000) (hk : j + 1 < s.size) (c p : UInt8) (hc : s[j + 1]'hk = c) (hj : j < s.size) (hpp : s[j]'hj = p) (hc : c = 34) (hp : p = 44) :
    Calls Tryd.prog 24 #[.string s, .int .i64 ((j : Int) + 1)] w fun e w' => e = .returned (.int .i64 1) ∧ w = w' := by
  have m35 : ((c.toNat : Int) == 35) = false := byte_beq c 35 false (decide_eq_false (by rw [hc]; decide))
  have n34 : ((c.toNat : Int) != 34) = false := byte_bne c 34 false (by rw [hc]; decide)
  have n39 : ((c.toNat : Int) != 39) = true := byte_bne c 39 true (decide_eq_true (by rw [hc]; decide))
  have q32 : ((p.toNat : Int) == 32) = false := byte_beq p 32 false (decide_eq_false (by rw [hp]; decide))
  have q91 : ((p.toNat : Int) == 91) = false := byte_beq p 91 false (decide_eq_false (by rw [hp]; decide))
  have q123 : ((p.toNat : Int) == 123) = false := byte_beq p 123 false (decide_eq_false (by rw [hp]; decide))
  have q44 : ((p.toNat : Int) == 44) = true := byte_beq p 44 true (by rw [hp]; decide)
  have hkz : (j : Int) + 1 < (s.size : Int) := by omega
  have hjz : (j : Int) < (s.size : Int) := by omega
  have e0 : (0 : Int) < (j : Int) + 1 := by omega
  have e2 : IntKind.i64.wrap ((j : Int) + 1 - 1) = (j : Int) := by rw [Int.add_sub_cancel]; exact IntWalk.i64_in _ (by omega)
  have e3 : 0 ≤ (j : Int) + 1 := by omega
  have e4 : ((j : Int) + 1).toNat = j + 1 := by omega
  go_enter Tryd.func24, Tryd.ntmps24
  go_wp2
  go_ret
  exact ⟨rfl, rfl⟩
set_option maxHeartbeats 800000 in
theorem begin_34_x (s : ByteArray) (j : Nat) (w : World) (hs : s.size ≤ 100000) (hk : j + 1 < s.size) (c p : UInt8) (hc : s[j + 1]'hk = c) (hj : j < s.size) (hpp : s[j]'hj = p) (hc : c = 34) (hp32 : p ≠ 32) (hp91 : p ≠ 91) (hp123 : p ≠ 123) (hp44 : p ≠ 44) :
    Calls Tryd.prog 24 #[.string s, .int .i64 ((j : Int) + 1)] w fun e w' => e = .returned (.int .i64 0) ∧ w = w' := by
  have m35 : ((c.toNat : Int) == 35) = false := byte_beq c 35 false (decide_eq_false (by rw [hc]; decide))
  have n34 : ((c.toNat : Int) != 34) = false := byte_bne c 34 false (by rw [hc]; decide)
  have n39 : ((c.toNat : Int) != 39) = true := byte_bne c 39 true (decide_eq_true (by rw [hc]; decide))
  have q32 : ((p.toNat : Int) == 32) = false := byte_beq p 32 false (decide_eq_false (by intro e; exact hp32 (UInt8.toNat_inj.1 e)))
  have q91 : ((p.toNat : Int) == 91) = false := byte_beq p 91 false (decide_eq_false (by intro e; exact hp91 (UInt8.toNat_inj.1 e)))
  have q123 : ((p.toNat : Int) == 123) = false := byte_beq p 123 false (decide_eq_false (by intro e; exact hp123 (UInt8.toNat_inj.1 e)))
  have q44 : ((p.toNat : Int) == 44) = false := byte_beq p 44 false (decide_eq_false (by intro e; exact hp44 (UInt8.toNat_inj.1 e)))
  have hkz : (j : Int) + 1 < (s.size : Int) := by omega
  have hjz : (j : Int) < (s.size : Int) := by omega
  have e0 : (0 : Int) < (j : Int) + 1 := by omega
  have e2 : IntKind.i64.wrap ((j : Int) + 1 - 1) = (j : Int) := by rw [Int.add_sub_cancel]; exact IntWalk.i64_in _ (by omega)
  have e3 : 0 ≤ (j : Int) + 1 := by omega
  have e4 : ((j : Int) + 1).toNat = j + 1 := by omega
  clear hp32 hp91 hp123 hp44
  go_enter Tryd.func24, Tryd.ntmps24
  go_wp2
  go_ret
  exact ⟨rfl, rfl⟩
set_option maxHeartbeats 800000 in
theorem begin_39_32 (s : ByteArray) (j : Nat) (w : World) (hs : s.size ≤ 100000) (hk : j + 1 < s.size) (c p : UInt8) (hc : s[j + 1]'hk = c) (hj : j < s.size) (hpp : s[j]'hj = p) (hc : c = 39) (hp : p = 32) :
    Calls Tryd.prog 24 #[.string s, .int .i64 ((j : Int) + 1)] w fun e w' => e = .returned (.int .i64 1) ∧ w = w' := by
  have m35 : ((c.toNat : Int) == 35) = false := byte_beq c 35 false (decide_eq_false (by rw [hc]; decide))
  have n34 : ((c.toNat : Int) != 34) = true := byte_bne c 34 true (decide_eq_true (by rw [hc]; decide))
  have n39 : ((c.toNat : Int) != 39) = false := byte_bne c 39 false (by rw [hc]; decide)
  have q32 : ((p.toNat : Int) == 32) = true := byte_beq p 32 true (by rw [hp]; decide)
  have q91 : ((p.toNat : Int) == 91) = false := byte_beq p 91 false (decide_eq_false (by rw [hp]; decide))
  have q123 : ((p.toNat : Int) == 123) = false := byte_beq p 123 false (decide_eq_false (by rw [hp]; decide))
  have q44 : ((p.toNat : Int) == 44) = false := byte_beq p 44 false (decide_eq_false (by rw [hp]; decide))
  have hkz : (j : Int) + 1 < (s.size : Int) := by omega
  have hjz : (j : Int) < (s.size : Int) := by omega
  have e0 : (0 : Int) < (j : Int) + 1 := by omega
  have e2 : IntKind.i64.wrap ((j : Int) + 1 - 1) = (j : Int) := by rw [Int.add_sub_cancel]; exact IntWalk.i64_in _ (by omega)
  have e3 : 0 ≤ (j : Int) + 1 := by omega
  have e4 : ((j : Int) + 1).toNat = j + 1 := by omega
  go_enter Tryd.func24, Tryd.ntmps24
  go_wp2
  go_ret
  exact ⟨rfl, rfl⟩
set_option maxHeartbeats 800000 in
theorem begin_39_91 (s : ByteArray) (j : Nat) (w : World) (hs : s.size ≤ 100000) (hk : j + 1 < s.size) (c p : UInt8) (hc : s[j + 1]'hk = c) (hj : j < s.size) (hpp : s[j]'hj = p) (hc : c = 39) (hp : p = 91) :
    Calls Tryd.prog 24 #[.string s, .int .i64 ((j : Int) + 1)] w fun e w' => e = .returned (.int .i64 1) ∧ w = w' := by
  have m35 : ((c.toNat : Int) == 35) = false := byte_beq c 35 false (decide_eq_false (by rw [hc]; decide))
  have n34 : ((c.toNat : Int) != 34) = true := byte_bne c 34 true (decide_eq_true (by rw [hc]; decide))
  have n39 : ((c.toNat : Int) != 39) = false := byte_bne c 39 false (by rw [hc]; decide)
  have q32 : ((p.toNat : Int) == 32) = false := byte_beq p 32 false (decide_eq_false (by rw [hp]; decide))
  have q91 : ((p.toNat : Int) == 91) = true := byte_beq p 91 true (by rw [hp]; decide)
  have q123 : ((p.toNat : Int) == 123) = false := byte_beq p 123 false (decide_eq_false (by rw [hp]; decide))
  have q44 : ((p.toNat : Int) == 44) = false := byte_beq p 44 false (decide_eq_false (by rw [hp]; decide))
  have hkz : (j : Int) + 1 < (s.size : Int) := by omega
  have hjz : (j : Int) < (s.size : Int) := by omega
  have e0 : (0 : Int) < (j : Int) + 1 := by omega
  have e2 : IntKind.i64.wrap ((j : Int) + 1 - 1) = (j : Int) := by rw [Int.add_sub_cancel]; exact IntWalk.i64_in _ (by omega)
  have e3 : 0 ≤ (j : Int) + 1 := by omega
  have e4 : ((j : Int) + 1).toNat = j + 1 := by omega
  go_enter Tryd.func24, Tryd.ntmps24
  go_wp2
  go_ret
  exact ⟨rfl, rfl⟩
set_option maxHeartbeats 800000 in
theorem begin_39_123 (s : ByteArray) (j : Nat) (w : World) (hs : s.size ≤ 100000) (hk : j + 1 < s.size) (c p : UInt8) (hc : s[j + 1]'hk = c) (hj : j < s.size) (hpp : s[j]'hj = p) (hc : c = 39) (hp : p = 123) :
    Calls Tryd.prog 24 #[.string s, .int .i64 ((j : Int) + 1)] w fun e w' => e = .returned (.int .i64 1) ∧ w = w' := by
  have m35 : ((c.toNat : Int) == 35) = false := byte_beq c 35 false (decide_eq_false (by rw [hc]; decide))
  have n34 : ((c.toNat : Int) != 34) = true := byte_bne c 34 true (decide_eq_true (by rw [hc]; decide))
  have n39 : ((c.toNat : Int) != 39) = false := byte_bne c 39 false (by rw [hc]; decide)
  have q32 : ((p.toNat : Int) == 32) = false := byte_beq p 32 false (decide_eq_false (by rw [hp]; decide))
  have q91 : ((p.toNat : Int) == 91) = false := byte_beq p 91 false (decide_eq_false (by rw [hp]; decide))
  have q123 : ((p.toNat : Int) == 123) = true := byte_beq p 123 true (by rw [hp]; decide)
  have q44 : ((p.toNat : Int) == 44) = false := byte_beq p 44 false (decide_eq_false (by rw [hp]; decide))
  have hkz : (j : Int) + 1 < (s.size : Int) := by omega
  have hjz : (j : Int) < (s.size : Int) := by omega
  have e0 : (0 : Int) < (j : Int) + 1 := by omega
  have e2 : IntKind.i64.wrap ((j : Int) + 1 - 1) = (j : Int) := by rw [Int.add_sub_cancel]; exact IntWalk.i64_in _ (by omega)
  have e3 : 0 ≤ (j : Int) + 1 := by omega
  have e4 : ((j : Int) + 1).toNat = j + 1 := by omega
  go_enter Tryd.func24, Tryd.ntmps24
  go_wp2
  go_ret
  exact ⟨rfl, rfl⟩
set_option maxHeartbeats 800000 in
theorem begin_39_44 (s : ByteArray) (j : Nat) (w : World) (hs : s.size ≤ 100000) (hk : j + 1 < s.size) (c p : UInt8) (hc : s[j + 1]'hk = c) (hj : j < s.size) (hpp : s[j]'hj = p) (hc : c = 39) (hp : p = 44) :
    Calls Tryd.prog 24 #[.string s, .int .i64 ((j : Int) + 1)] w fun e w' => e = .returned (.int .i64 1) ∧ w = w' := by
  have m35 : ((c.toNat : Int) == 35) = false := byte_beq c 35 false (decide_eq_false (by rw [hc]; decide))
  have n34 : ((c.toNat : Int) != 34) = true := byte_bne c 34 true (decide_eq_true (by rw [hc]; decide))
  have n39 : ((c.toNat : Int) != 39) = false := byte_bne c 39 false (by rw [hc]; decide)
  have q32 : ((p.toNat : Int) == 32) = false := byte_beq p 32 false (decide_eq_false (by rw [hp]; decide))
  have q91 : ((p.toNat : Int) == 91) = false := byte_beq p 91 false (decide_eq_false (by rw [hp]; decide))
  have q123 : ((p.toNat : Int) == 123) = false := byte_beq p 123 false (decide_eq_false (by rw [hp]; decide))
  have q44 : ((p.toNat : Int) == 44) = true := byte_beq p 44 true (by rw [hp]; decide)
  have hkz : (j : Int) + 1 < (s.size : Int) := by omega
  have hjz : (j : Int) < (s.size : Int) := by omega
  have e0 : (0 : Int) < (j : Int) + 1 := by omega
  have e2 : IntKind.i64.wrap ((j : Int) + 1 - 1) = (j : Int) := by rw [Int.add_sub_cancel]; exact IntWalk.i64_in _ (by omega)
  have e3 : 0 ≤ (j : Int) + 1 := by omega
  have e4 : ((j : Int) + 1).toNat = j + 1 := by omega
  go_enter Tryd.func24, Tryd.ntmps24
  go_wp2
  go_ret
  exact ⟨rfl, rfl⟩
set_option maxHeartbeats 800000 in
theorem begin_39_x (s : ByteArray) (j : Nat) (w : World) (hs : s.size ≤ 100000) (hk : j + 1 < s.size) (c p : UInt8) (hc : s[j + 1]'hk = c) (hj : j < s.size) (hpp : s[j]'hj = p) (hc : c = 39) (hp32 : p ≠ 32) (hp91 : p ≠ 91) (hp123 : p ≠ 123) (hp44 : p ≠ 44) :
    Calls Tryd.prog 24 #[.string s, .int .i64 ((j : Int) + 1)] w fun e w' => e = .returned (.int .i64 0) ∧ w = w' := by
  have m35 : ((c.toNat : Int) == 35) = false := byte_beq c 35 false (decide_eq_false (by rw [hc]; decide))
  have n34 : ((c.toNat : Int) != 34) = true := byte_bne c 34 true (decide_eq_true (by rw [hc]; decide))
  have n39 : ((c.toNat : Int) != 39) = false := byte_bne c 39 false (by rw [hc]; decide)
  have q32 : ((p.toNat : Int) == 32) = false := byte_beq p 32 false (decide_eq_false (by intro e; exact hp32 (UInt8.toNat_inj.1 e)))
  have q91 : ((p.toNat : Int) == 91) = false := byte_beq p 91 false (decide_eq_false (by intro e; exact hp91 (UInt8.toNat_inj.1 e)))
  have q123 : ((p.toNat : Int) == 123) = false := byte_beq p 123 false (decide_eq_false (by intro e; exact hp123 (UInt8.toNat_inj.1 e)))
  have q44 : ((p.toNat : Int) == 44) = false := byte_beq p 44 false (decide_eq_false (by intro e; exact hp44 (UInt8.toNat_inj.1 e)))
  have hkz : (j : Int) + 1 < (s.size : Int) := by omega
  have hjz : (j : Int) < (s.size : Int) := by omega
  have e0 : (0 : Int) < (j : Int) + 1 := by omega
  have e2 : IntKind.i64.wrap ((j : Int) + 1 - 1) = (j : Int) := by rw [Int.add_sub_cancel]; exact IntWalk.i64_in _ (by omega)
  have e3 : 0 ≤ (j : Int) + 1 := by omega
  have e4 : ((j : Int) + 1).toNat = j + 1 := by omega
  clear hp32 hp91 hp123 hp44
  go_enter Tryd.func24, Tryd.ntmps24
  go_wp2
  go_ret
  exact ⟨rfl, rfl⟩
set_option maxHeartbeats 800000 in
theorem begin_x_any (s : ByteArray) (j : Nat) (w : World) (hs : s.size ≤ 100000) (hk : j + 1 < s.size) (c p : UInt8) (hc : s[j + 1]'hk = c) (hj : j < s.size) (hpp : s[j]'hj = p) (hc35 : c ≠ 35) (hc34 : c ≠ 34) (hc39 : c ≠ 39) :
    Calls Tryd.prog 24 #[.string s, .int .i64 ((j : Int) + 1)] w fun e w' => e = .returned (.int .i64 0) ∧ w = w' := by
  have m35 : ((c.toNat : Int) == 35) = false := byte_beq c 35 false (decide_eq_false (by intro e; exact hc35 (UInt8.toNat_inj.1 e)))
  have n34 : ((c.toNat : Int) != 34) = true := byte_bne c 34 true (decide_eq_true (by intro e; exact hc34 (UInt8.toNat_inj.1 e)))
  have n39 : ((c.toNat : Int) != 39) = true := byte_bne c 39 true (decide_eq_true (by intro e; exact hc39 (UInt8.toNat_inj.1 e)))
  have hkz : (j : Int) + 1 < (s.size : Int) := by omega
  have hjz : (j : Int) < (s.size : Int) := by omega
  have e0 : (0 : Int) < (j : Int) + 1 := by omega
  have e2 : IntKind.i64.wrap ((j : Int) + 1 - 1) = (j : Int) := by rw [Int.add_sub_cancel]; exact IntWalk.i64_in _ (by omega)
  have e3 : 0 ≤ (j : Int) + 1 := by omega
  have e4 : ((j : Int) + 1).toNat = j + 1 := by omega
  clear hc35 hc34 hc39
  go_enter Tryd.func24, Tryd.ntmps24
  go_wp2
  go_ret
  exact ⟨rfl, rfl⟩
theorem begins_any (s : ByteArray) (k : Nat) (w : World) (hs : s.size ≤ 100000) (hk : k < s.size) (b : Int) (h : ((begK s.data.toList k : Nat) : Int) = b) :
    Calls Tryd.prog 24 #[.string s, .int .i64 (k : Int)] w fun e w' => e = .returned (.int .i64 b) ∧ w = w' := by
  obtain ⟨c, hc⟩ : ∃ c, s[k]'hk = c := ⟨_, rfl⟩
  have hg : s.data.toList.getD k 0 = c := (getd s k hk).trans hc
  subst h
  cases k with
  | zero =>
    have hp : prevB s.data.toList 0 = 32 := rfl
    by_cases h35 : c = 35
    · have e : begK s.data.toList 0 = 2 := by rw [begK_mark (hg.trans h35), if_pos hp]
      rw [e]; exact begin0_35 s w hs hk c hc h35
    by_cases h34 : c = 34
    · have e : begK s.data.toList 0 = 1 := by rw [begK_quote (by rw [hg]; exact .inl h34), if_pos (by rw [hp]; decide)]
      rw [e]; exact begin0_34 s w hs hk c hc h34
    by_cases h39 : c = 39
    · have e : begK s.data.toList 0 = 1 := by rw [begK_quote (by rw [hg]; exact .inr h39), if_pos (by rw [hp]; decide)]
      rw [e]; exact begin0_39 s w hs hk c hc h39
    · rw [begK_none hg h35 h34 h39]; exact begin0_x s w hs hk c hc h35 h34 h39
  | succ j =>
    have hj : j < s.size := by omega
    obtain ⟨p, hpp⟩ : ∃ p, s[j]'hj = p := ⟨_, rfl⟩
    have hp : prevB s.data.toList (j + 1) = p := by unfold prevB; rw [if_neg (by omega), Nat.add_sub_cancel]; exact (getd s j hj).trans hpp
    have kz : ((j + 1 : Nat) : Int) = (j : Int) + 1 := by omega
    rw [kz]
    by_cases h35 : c = 35
    · rw [begK_mark (hg.trans h35), hp]
      by_cases h32 : p = 32
      · rw [if_pos h32]; exact begin_35_32 s j w hs hk c p hc hj hpp h35 h32
      · rw [if_neg h32]
        by_cases h91 : p = 91
        · exact begin_35_91 s j w hs hk c p hc hj hpp h35 h91
        by_cases h123 : p = 123
        · exact begin_35_123 s j w hs hk c p hc hj hpp h35 h123
        by_cases h44 : p = 44
        · exact begin_35_44 s j w hs hk c p hc hj hpp h35 h44
        exact begin_35_x s j w hs hk c p hc hj hpp h35 h32 h91 h123 h44
    by_cases hq : c = 34 ∨ c = 39
    · rw [begK_quote (by rw [hg]; exact hq), hp]
      by_cases h32 : p = 32
      · rw [if_pos (by rw [h32]; decide)]
        rcases hq with h | h
        · exact begin_34_32 s j w hs hk c p hc hj hpp h h32
        · exact begin_39_32 s j w hs hk c p hc hj hpp h h32
      by_cases h91 : p = 91
      · rw [if_pos (by rw [h91]; decide)]
        rcases hq with h | h
        · exact begin_34_91 s j w hs hk c p hc hj hpp h h91
        · exact begin_39_91 s j w hs hk c p hc hj hpp h h91
      by_cases h123 : p = 123
      · rw [if_pos (by rw [h123]; decide)]
        rcases hq with h | h
        · exact begin_34_123 s j w hs hk c p hc hj hpp h h123
        · exact begin_39_123 s j w hs hk c p hc hj hpp h h123
      by_cases h44 : p = 44
      · rw [if_pos (by rw [h44]; decide)]
        rcases hq with h | h
        · exact begin_34_44 s j w hs hk c p hc hj hpp h h44
        · exact begin_39_44 s j w hs hk c p hc hj hpp h h44
      have ho : ¬ opens p = true := by
        unfold opens
        rw [decide_eq_false h32, decide_eq_false h91, decide_eq_false h123, decide_eq_false h44]; decide
      rw [if_neg ho]
      rcases hq with h | h
      · exact begin_34_x s j w hs hk c p hc hj hpp h h32 h91 h123 h44
      · exact begin_39_x s j w hs hk c p hc hj hpp h h32 h91 h123 h44
    · rw [begK_none hg h35 (fun e => hq (.inl e)) (fun e => hq (.inr e))]
      exact begin_x_any s j w hs hk c p hc hj hpp h35 (fun e => hq (.inl e)) (fun e => hq (.inr e))
end Go.Proofs.YtjhojedicehcfaaDoor
