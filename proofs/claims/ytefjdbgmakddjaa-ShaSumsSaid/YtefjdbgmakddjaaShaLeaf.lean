/- The contracts of the functions on words. -/
import Derived.Test.YtefjdbgmakddjaaShaBits
namespace Go.Proofs.Ytefjdbgmakddjaa
open Go.RowKit
open Sh
set_option linter.unusedVariables false
set_option maxHeartbeats 1000000
theorem bigSigma0_any (x : Int) (w : World) :
    Calls Try.prog 54 #[.int .u32 x] w fun e w' => e = .returned (.int .u32 (S0 x)) ∧ w = w' := by
  go_enter Try.func54, Try.ntmps54
  go_wp2_with fail
  refine (rotate_any x 2 1073741824 4 _ (by unfold tab; simp)).mono ?_
  rintro e w1 ⟨rfl, rfl⟩
  go_wp2_with fail
  refine (rotate_any x 13 524288 8192 _ (by unfold tab; simp)).mono ?_
  rintro e w1 ⟨rfl, rfl⟩
  go_wp2_with fail
  refine (rotate_any x 22 1024 4194304 _ (by unfold tab; simp)).mono ?_
  rintro e w1 ⟨rfl, rfl⟩
  go_wp2
  go_ret
  exact ⟨rfl, rfl⟩
theorem bigSigma1_any (x : Int) (w : World) :
    Calls Try.prog 52 #[.int .u32 x] w fun e w' => e = .returned (.int .u32 (S1 x)) ∧ w = w' := by
  go_enter Try.func52, Try.ntmps52
  go_wp2_with fail
  refine (rotate_any x 6 67108864 64 _ (by unfold tab; simp)).mono ?_
  rintro e w1 ⟨rfl, rfl⟩
  go_wp2_with fail
  refine (rotate_any x 11 2097152 2048 _ (by unfold tab; simp)).mono ?_
  rintro e w1 ⟨rfl, rfl⟩
  go_wp2_with fail
  refine (rotate_any x 25 128 33554432 _ (by unfold tab; simp)).mono ?_
  rintro e w1 ⟨rfl, rfl⟩
  go_wp2
  go_ret
  exact ⟨rfl, rfl⟩
theorem smallSigma0_any (x : Int) (w : World) :
    Calls Try.prog 51 #[.int .u32 x] w fun e w' => e = .returned (.int .u32 (s0 x)) ∧ w = w' := by
  go_enter Try.func51, Try.ntmps51
  go_wp2_with fail
  refine (rotate_any x 7 33554432 128 _ (by unfold tab; simp)).mono ?_
  rintro e w1 ⟨rfl, rfl⟩
  go_wp2_with fail
  refine (rotate_any x 18 16384 262144 _ (by unfold tab; simp)).mono ?_
  rintro e w1 ⟨rfl, rfl⟩
  go_wp2
  go_ret
  exact ⟨rfl, rfl⟩
theorem smallSigma1_any (x : Int) (w : World) :
    Calls Try.prog 50 #[.int .u32 x] w fun e w' => e = .returned (.int .u32 (s1 x)) ∧ w = w' := by
  go_enter Try.func50, Try.ntmps50
  go_wp2_with fail
  refine (rotate_any x 17 32768 131072 _ (by unfold tab; simp)).mono ?_
  rintro e w1 ⟨rfl, rfl⟩
  go_wp2_with fail
  refine (rotate_any x 19 8192 524288 _ (by unfold tab; simp)).mono ?_
  rintro e w1 ⟨rfl, rfl⟩
  go_wp2
  go_ret
  exact ⟨rfl, rfl⟩
theorem choice_any (x y z : Int) (w : World) (hx : W32 x) :
    Calls Try.prog 53 #[.int .u32 x, .int .u32 y, .int .u32 z] w fun e w' => e = .returned (.int .u32 (ch x y z)) ∧ w = w' := by
  have hn := not32 hx
  go_enter Try.func53, Try.ntmps53
  go_wp2
  go_ret
  exact ⟨by unfold ch; rw [← hn]; rfl, rfl⟩
theorem majority_any (x y z : Int) (w : World) :
    Calls Try.prog 55 #[.int .u32 x, .int .u32 y, .int .u32 z] w fun e w' => e = .returned (.int .u32 (maj x y z)) ∧ w = w' := by
  go_enter Try.func55, Try.ntmps55
  go_wp2
  go_ret
  exact ⟨rfl, rfl⟩
theorem turn_any (x n k l : Int) (w : World) (h : tab n k l) :
    Calls Try.prog 44 #[.int .u32 x, .int .u64 n] w fun e w' => e = .returned (.int .u32 (rotL x k l)) ∧ w = w' := by
  unfold rotL
  rw [or_comm32]
  rcases h with ⟨rfl, rfl, rfl⟩ | ⟨rfl, rfl, rfl⟩ | ⟨rfl, rfl, rfl⟩ | ⟨rfl, rfl, rfl⟩ | ⟨rfl, rfl, rfl⟩ | ⟨rfl, rfl, rfl⟩ | ⟨rfl, rfl, rfl⟩ | ⟨rfl, rfl, rfl⟩ | ⟨rfl, rfl, rfl⟩ | ⟨rfl, rfl, rfl⟩
  all_goals
    go_enter Try.func44, Try.ntmps44
    go_wp2
    go_ret
    exact ⟨rfl, rfl⟩
theorem bq1 (a : UInt8) : (a.toNat : Int) % 4294967296 = (a.toNat : Int) := by have := a.toNat_lt; omega
theorem bq24 (a : UInt8) : (a.toNat : Int) * 16777216 % 4294967296 = (a.toNat : Int) * 16777216 := by have := a.toNat_lt; omega
theorem bq16 (a : UInt8) : (a.toNat : Int) * 65536 % 4294967296 = (a.toNat : Int) * 65536 := by have := a.toNat_lt; omega
theorem bq8 (a : UInt8) : (a.toNat : Int) * 256 % 4294967296 = (a.toNat : Int) * 256 := by have := a.toNat_lt; omega
theorem word_any (s : ByteArray) (w : World) (hs : 4 ≤ s.size) :
    Calls Try.prog 49 #[.string s] w fun e w' => e = .returned (.int .u32 (be s[0] s[1] s[2] s[3])) ∧ Below w.heap.size w w' := by
  have hb := be_or s[0] s[1] s[2] s[3]
  have g0 : 0 < s.size := by omega
  have g1 : (1 : Int) < (s.size : Int) := by omega
  have g2 : (2 : Int) < (s.size : Int) := by omega
  have g3 : (3 : Int) < (s.size : Int) := by omega
  have HB := Lib.hid hb
  clear hb
  go_enter Try.func49, Try.ntmps49
  go_wp2
  go_quiet (fail)
  go_wp2
  go_ret
  refine ⟨ret_u ?_, ⟨rfl, rfl, rfl, Nat.le_refl _, fun _ _ => rfl⟩⟩
  rw [← HB.out, bq1, bq1, bq1, bq1, bq24, bq16, bq8]
end Go.Proofs.Ytefjdbgmakddjaa
