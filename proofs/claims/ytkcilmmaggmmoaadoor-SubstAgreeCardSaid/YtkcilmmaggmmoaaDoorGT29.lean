/- NamRefs -/
import Derived.Test.YtkcilmmaggmmoaaDoorGT4
set_option linter.unusedVariables false
set_option linter.unusedSimpArgs false
set_option maxRecDepth 100000
set_option maxHeartbeats 16000000
open Go.Lib (hid)
namespace Go.Proofs.YtkcilmmaggmmoaaDoor
namespace Nw
end Nw
end Go.Proofs.YtkcilmmaggmmoaaDoor
namespace Go.Proofs.YtkcilmmaggmmoaaDoor
section
open Go.RowKit
open Nw
theorem int_eq {k : IntKind} {a b : Int} (h : a = b) : Value.int k a = .int k b := by rw [h]
theorem Kind_any (c : UInt8) (w : World) : Calls Tryd.prog 43 #[.int .u8 c.toNat] w fun e w' => e = .returned (.int .i64 (kind c)) ∧ w = w' := by
 have HK := hid (rfl : kind c = kind c)
 unfold kind at HK
 by_cases h1 : (97 : Int) ≤ (c.toNat : Int) <;> by_cases h2 : (c.toNat : Int) ≤ 122 <;> by_cases h3 : (65 : Int) ≤ (c.toNat : Int) <;> by_cases h4 : (c.toNat : Int) ≤ 90 <;> by_cases h5 : (48 : Int) ≤ (c.toNat : Int) <;> by_cases h6 : (c.toNat : Int) ≤ 57 <;> by_cases h7 : (c.toNat : Int) = 95 <;> by_cases h8 : (c.toNat : Int) = 45 <;> by_cases h9 : (c.toNat : Int) = 46
 all_goals first
  | (exfalso; omega)
  | (
   go_enter Tryd.func43, Tryd.ntmps43
   go_wp2
   go_ret
   refine ⟨ret_int ?_, rfl⟩
   unfold kind
   repeat' split
   all_goals first | rfl | omega)
theorem RVariable_any (s : ByteArray) (w : World) (hs : s.size ≤ maxLen) :
  Calls Tryd.prog 27 #[.string s] w fun e w' => e = .returned (.bool (nm v1 v2 s.data.toList)) ∧ w = w' := by
 unfold maxLen at hs
 by_cases h0 : (s.size : Int) < 1
 ·have H : Hid (nm v1 v2 s.data.toList = false) := hid (nm_nil (by rw [len_eq]; omega))
  go_enter Tryd.func27, Tryd.ntmps27
  go_wp2
  go_ret
  exact ⟨ret_bool H.out.symm, rfl⟩
 by_cases h1 : (24 : Int) < (s.size : Int)
 ·have H : Hid (nm v1 v2 s.data.toList = false) := hid (nm_long (by rw [len_eq]; omega))
  go_enter Tryd.func27, Tryd.ntmps27
  go_wp2
  go_ret
  exact ⟨ret_bool H.out.symm, rfl⟩
 have hpos : Hid (0 < s.size) := hid (by omega)
 have hl : Hid (s.size ≤ 24) := hid (by omega)
 go_enter Tryd.func27, Tryd.ntmps27
 go_wp2
 go_loop [3, 4] (fun i kk => ∃ k : Nat, k ≤ s.size ∧ i = .int .i64 k ∧ good v1 v2 s.data.toList k) (fun i _ => s.size - (intOf i).toNat)
 case atStart => exact ⟨0, Nat.zero_le _, rfl, good_zero _ _ _⟩
 case round =>
  obtain ⟨k, hk, rfl, hall⟩ := hrel
  have HG := hid hall; clear hall
  by_cases hlt : k < s.size
  ·have e2' := hid (getd s k hlt)
   have hcall := Kind_any s[k] w
   have K := hid (And.intro (k_v1 s[k]) (k_v2 s[k]))
   generalize kind s[k] = q at hcall K
   by_cases hk0 : k = 0
   ·subst hk0
    have A : Hid (okAt v1 v2 0 s[0] = decide (q ≠ 0 ∧ q ≤ 4 ∧ q ≠ 3)) := hid (by unfold okAt; rw [if_pos rfl, K.out.1]; first | done | (rw [Bool.eq_iff_iff]; simp; done) | (rw [Bool.eq_iff_iff]; simp; omega))
    clear K
    by_cases z0 : (q : Int) = 0 <;> by_cases g4 : (4 : Int) < (q : Int) <;> by_cases z3 : (q : Int) = 3
    all_goals try (exfalso; omega)
    all_goals first | (have b0 : ((q : Int) == 0) = true := beq_iff_eq.2 z0) | (have b0 : ((q : Int) == 0) = false := beq_eq_false_iff_ne.2 z0)
    all_goals first | (have b3 : ((q : Int) == 3) = true := beq_iff_eq.2 z3) | (have b3 : ((q : Int) == 3) = false := beq_eq_false_iff_ne.2 z3)
    all_goals first | (have d4 : decide ((4 : Int) < (q : Int)) = true := decide_eq_true g4) | (have d4 : decide ((4 : Int) < (q : Int)) = false := decide_eq_false g4)
    all_goals
     go_wp2_with (go_at_call 43; refine hcall.mono ?_; rintro e w' ⟨rfl, rfl⟩)
     first
     | (
      go_ret
      exact ⟨ret_bool (nm_not (k := 0) (by rw [len_eq]; exact hlt) (by rw [e2'.out, A.out]; exact decide_eq_false (by omega))).symm, rfl⟩)
     | (
      refine ⟨⟨1, by omega, int_eq (by omega), good_succ HG.out (by rw [e2'.out, A.out]; exact decide_eq_true (by omega))⟩, ?_⟩
      first | (simp [intOf]; done) | (simp [intOf]; omega))
   ·have hk0' : ¬ (k : Int) = 0 := by omega
    have A : Hid (okAt v1 v2 k s[k] = decide (q ≠ 0 ∧ q ≤ 4)) := hid (by unfold okAt; rw [if_neg hk0, K.out.2]; first | done | (rw [Bool.eq_iff_iff]; simp; done) | (rw [Bool.eq_iff_iff]; simp; omega))
    clear K
    by_cases z0 : (q : Int) = 0 <;> by_cases g4 : (4 : Int) < (q : Int)
    all_goals try (exfalso; omega)
    all_goals first | (have b0 : ((q : Int) == 0) = true := beq_iff_eq.2 z0) | (have b0 : ((q : Int) == 0) = false := beq_eq_false_iff_ne.2 z0)
    all_goals first | (have d4 : decide ((4 : Int) < (q : Int)) = true := decide_eq_true g4) | (have d4 : decide ((4 : Int) < (q : Int)) = false := decide_eq_false g4)
    all_goals
     go_wp2_with (go_at_call 43; refine hcall.mono ?_; rintro e w' ⟨rfl, rfl⟩)
     first
     | (
      go_ret
      exact ⟨ret_bool (nm_not (k := k) (by rw [len_eq]; exact hlt) (by rw [e2'.out, A.out]; exact decide_eq_false (by omega))).symm, rfl⟩)
     | (
      refine ⟨⟨k + 1, by omega, int_eq (by omega), good_succ HG.out (by rw [e2'.out, A.out]; exact decide_eq_true (by omega))⟩, ?_⟩
      first | (simp [intOf]; done) | (simp [intOf]; omega))
  ·go_wp2
   go_ret
   obtain rfl : k = s.size := by omega
   exact ⟨ret_bool (nm_yes hpos.out hl.out HG.out).symm, rfl⟩
end
end Go.Proofs.YtkcilmmaggmmoaaDoor
