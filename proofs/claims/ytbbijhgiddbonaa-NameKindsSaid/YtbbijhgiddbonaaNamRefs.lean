/- Contracts of the reference's Kind, Service, Variable and Project. -/
import Derived.Test.YtbbijhgiddbonaaNamKinds
namespace Go.Proofs.Ytbbijhgiddbonaa
open Go.RowKit
open Nw
set_option linter.unusedVariables false

theorem int_eq {k : IntKind} {a b : Int} (h : a = b) : Value.int k a = .int k b := by rw [h]

set_option maxHeartbeats 800000 in
theorem Kind_any (c : UInt8) (w : World) : Calls Try.prog 36 #[.int .u8 c.toNat] w fun e w' => e = .returned (.int .i64 (kind c)) ∧ w = w' := by
  have HK := Lib.hid (rfl : kind c = kind c)
  unfold kind at HK
  by_cases h1 : (97 : Int) ≤ (c.toNat : Int) <;> by_cases h2 : (c.toNat : Int) ≤ 122 <;> by_cases h3 : (65 : Int) ≤ (c.toNat : Int) <;> by_cases h4 : (c.toNat : Int) ≤ 90 <;> by_cases h5 : (48 : Int) ≤ (c.toNat : Int) <;> by_cases h6 : (c.toNat : Int) ≤ 57 <;> by_cases h7 : (c.toNat : Int) = 95 <;> by_cases h8 : (c.toNat : Int) = 45 <;> by_cases h9 : (c.toNat : Int) = 46
  all_goals first
    | (exfalso; omega)
    | (go_enter Try.func36, Try.ntmps36
       go_wp2
       go_ret
       refine ⟨ret_int ?_, rfl⟩
       unfold kind
       repeat' split
       all_goals first | rfl | omega)

set_option maxHeartbeats 3200000 in
theorem RService_any (s : ByteArray) (w : World) (hs : s.size ≤ maxLen) :
    Calls Try.prog 10 #[.string s] w fun e w' => e = .returned (.bool (nm s1 s2 s.data.toList)) ∧ w = w' := by
  unfold maxLen at hs
  by_cases h0 : (s.size : Int) < 1
  · have H : Hid (nm s1 s2 s.data.toList = false) := Lib.hid (nm_nil (by rw [len_eq]; omega))
    go_enter Try.func10, Try.ntmps10
    go_wp2
    go_ret
    exact ⟨ret_bool H.out.symm, rfl⟩
  by_cases h1 : (24 : Int) < (s.size : Int)
  · have H : Hid (nm s1 s2 s.data.toList = false) := Lib.hid (nm_long (by rw [len_eq]; omega))
    go_enter Try.func10, Try.ntmps10
    go_wp2
    go_ret
    exact ⟨ret_bool H.out.symm, rfl⟩
  have hpos : Hid (0 < s.size) := Lib.hid (by omega)
  have hl : Hid (s.size ≤ 24) := Lib.hid (by omega)
  go_enter Try.func10, Try.ntmps10
  go_wp2
  go_loop [3, 4] (fun i kk => ∃ k : Nat, k ≤ s.size ∧ i = .int .i64 k ∧ good s1 s2 s.data.toList k) (fun i _ => s.size - (intOf i).toNat)
  case atStart => exact ⟨0, Nat.zero_le _, rfl, good_zero _ _ _⟩
  case round =>
    obtain ⟨k, hk, rfl, hall⟩ := hrel
    have HG := Lib.hid hall; clear hall
    by_cases hlt : k < s.size
    · have e2' := Lib.hid (getd s k hlt)
      have hcall := Kind_any s[k] w
      have K := Lib.hid (And.intro (k_s1 s[k]) (k_s2 s[k]))
      generalize kind s[k] = q at hcall K
      by_cases hk0 : k = 0
      · subst hk0
        have A : Hid (okAt s1 s2 0 s[0] = decide (q ≠ 0 ∧ q ≤ 3)) := Lib.hid (by unfold okAt; rw [if_pos rfl, K.out.1]; first | done | (rw [Bool.eq_iff_iff]; simp; done) | (rw [Bool.eq_iff_iff]; simp; omega))
        clear K
        by_cases z0 : (q : Int) = 0 <;> by_cases g3 : (3 : Int) < (q : Int)
        all_goals try (exfalso; omega)
        all_goals first | (have b0 : ((q : Int) == 0) = true := beq_iff_eq.2 z0) | (have b0 : ((q : Int) == 0) = false := beq_eq_false_iff_ne.2 z0)
        all_goals first | (have d3 : decide ((3 : Int) < (q : Int)) = true := decide_eq_true g3) | (have d3 : decide ((3 : Int) < (q : Int)) = false := decide_eq_false g3)
        all_goals
          go_wp2_with (go_at_call 36; refine hcall.mono ?_; rintro e w' ⟨rfl, rfl⟩)
          first
          | (go_ret
             exact ⟨ret_bool (nm_not (k := 0) (by rw [len_eq]; exact hlt) (by rw [e2'.out, A.out]; exact decide_eq_false (by omega))).symm, rfl⟩)
          | (refine ⟨⟨1, by omega, int_eq (by omega), good_succ HG.out (by rw [e2'.out, A.out]; exact decide_eq_true (by omega))⟩, ?_⟩
             first | (simp [intOf]; done) | (simp [intOf]; omega))
      · have hk0' : ¬ (k : Int) = 0 := by omega
        have A : Hid (okAt s1 s2 k s[k] = decide (q ≠ 0)) := Lib.hid (by unfold okAt; rw [if_neg hk0, K.out.2]; first | done | (rw [Bool.eq_iff_iff]; simp; done) | (rw [Bool.eq_iff_iff]; simp; omega))
        clear K
        by_cases z0 : (q : Int) = 0
        all_goals try (exfalso; omega)
        all_goals first | (have b0 : ((q : Int) == 0) = true := beq_iff_eq.2 z0) | (have b0 : ((q : Int) == 0) = false := beq_eq_false_iff_ne.2 z0)
        all_goals
          go_wp2_with (go_at_call 36; refine hcall.mono ?_; rintro e w' ⟨rfl, rfl⟩)
          first
          | (go_ret
             exact ⟨ret_bool (nm_not (k := k) (by rw [len_eq]; exact hlt) (by rw [e2'.out, A.out]; exact decide_eq_false (by omega))).symm, rfl⟩)
          | (refine ⟨⟨k + 1, by omega, int_eq (by omega), good_succ HG.out (by rw [e2'.out, A.out]; exact decide_eq_true (by omega))⟩, ?_⟩
             first | (simp [intOf]; done) | (simp [intOf]; omega))
    · go_wp2
      go_ret
      obtain rfl : k = s.size := by omega
      exact ⟨ret_bool (nm_yes hpos.out hl.out HG.out).symm, rfl⟩

set_option maxHeartbeats 3200000 in
theorem RVariable_any (s : ByteArray) (w : World) (hs : s.size ≤ maxLen) :
    Calls Try.prog 11 #[.string s] w fun e w' => e = .returned (.bool (nm v1 v2 s.data.toList)) ∧ w = w' := by
  unfold maxLen at hs
  by_cases h0 : (s.size : Int) < 1
  · have H : Hid (nm v1 v2 s.data.toList = false) := Lib.hid (nm_nil (by rw [len_eq]; omega))
    go_enter Try.func11, Try.ntmps11
    go_wp2
    go_ret
    exact ⟨ret_bool H.out.symm, rfl⟩
  by_cases h1 : (24 : Int) < (s.size : Int)
  · have H : Hid (nm v1 v2 s.data.toList = false) := Lib.hid (nm_long (by rw [len_eq]; omega))
    go_enter Try.func11, Try.ntmps11
    go_wp2
    go_ret
    exact ⟨ret_bool H.out.symm, rfl⟩
  have hpos : Hid (0 < s.size) := Lib.hid (by omega)
  have hl : Hid (s.size ≤ 24) := Lib.hid (by omega)
  go_enter Try.func11, Try.ntmps11
  go_wp2
  go_loop [3, 4] (fun i kk => ∃ k : Nat, k ≤ s.size ∧ i = .int .i64 k ∧ good v1 v2 s.data.toList k) (fun i _ => s.size - (intOf i).toNat)
  case atStart => exact ⟨0, Nat.zero_le _, rfl, good_zero _ _ _⟩
  case round =>
    obtain ⟨k, hk, rfl, hall⟩ := hrel
    have HG := Lib.hid hall; clear hall
    by_cases hlt : k < s.size
    · have e2' := Lib.hid (getd s k hlt)
      have hcall := Kind_any s[k] w
      have K := Lib.hid (And.intro (k_v1 s[k]) (k_v2 s[k]))
      generalize kind s[k] = q at hcall K
      by_cases hk0 : k = 0
      · subst hk0
        have A : Hid (okAt v1 v2 0 s[0] = decide (q ≠ 0 ∧ q ≤ 4 ∧ q ≠ 3)) := Lib.hid (by unfold okAt; rw [if_pos rfl, K.out.1]; first | done | (rw [Bool.eq_iff_iff]; simp; done) | (rw [Bool.eq_iff_iff]; simp; omega))
        clear K
        by_cases z0 : (q : Int) = 0 <;> by_cases g4 : (4 : Int) < (q : Int) <;> by_cases z3 : (q : Int) = 3
        all_goals try (exfalso; omega)
        all_goals first | (have b0 : ((q : Int) == 0) = true := beq_iff_eq.2 z0) | (have b0 : ((q : Int) == 0) = false := beq_eq_false_iff_ne.2 z0)
        all_goals first | (have b3 : ((q : Int) == 3) = true := beq_iff_eq.2 z3) | (have b3 : ((q : Int) == 3) = false := beq_eq_false_iff_ne.2 z3)
        all_goals first | (have d4 : decide ((4 : Int) < (q : Int)) = true := decide_eq_true g4) | (have d4 : decide ((4 : Int) < (q : Int)) = false := decide_eq_false g4)
        all_goals
          go_wp2_with (go_at_call 36; refine hcall.mono ?_; rintro e w' ⟨rfl, rfl⟩)
          first
          | (go_ret
             exact ⟨ret_bool (nm_not (k := 0) (by rw [len_eq]; exact hlt) (by rw [e2'.out, A.out]; exact decide_eq_false (by omega))).symm, rfl⟩)
          | (refine ⟨⟨1, by omega, int_eq (by omega), good_succ HG.out (by rw [e2'.out, A.out]; exact decide_eq_true (by omega))⟩, ?_⟩
             first | (simp [intOf]; done) | (simp [intOf]; omega))
      · have hk0' : ¬ (k : Int) = 0 := by omega
        have A : Hid (okAt v1 v2 k s[k] = decide (q ≠ 0 ∧ q ≤ 4)) := Lib.hid (by unfold okAt; rw [if_neg hk0, K.out.2]; first | done | (rw [Bool.eq_iff_iff]; simp; done) | (rw [Bool.eq_iff_iff]; simp; omega))
        clear K
        by_cases z0 : (q : Int) = 0 <;> by_cases g4 : (4 : Int) < (q : Int)
        all_goals try (exfalso; omega)
        all_goals first | (have b0 : ((q : Int) == 0) = true := beq_iff_eq.2 z0) | (have b0 : ((q : Int) == 0) = false := beq_eq_false_iff_ne.2 z0)
        all_goals first | (have d4 : decide ((4 : Int) < (q : Int)) = true := decide_eq_true g4) | (have d4 : decide ((4 : Int) < (q : Int)) = false := decide_eq_false g4)
        all_goals
          go_wp2_with (go_at_call 36; refine hcall.mono ?_; rintro e w' ⟨rfl, rfl⟩)
          first
          | (go_ret
             exact ⟨ret_bool (nm_not (k := k) (by rw [len_eq]; exact hlt) (by rw [e2'.out, A.out]; exact decide_eq_false (by omega))).symm, rfl⟩)
          | (refine ⟨⟨k + 1, by omega, int_eq (by omega), good_succ HG.out (by rw [e2'.out, A.out]; exact decide_eq_true (by omega))⟩, ?_⟩
             first | (simp [intOf]; done) | (simp [intOf]; omega))
    · go_wp2
      go_ret
      obtain rfl : k = s.size := by omega
      exact ⟨ret_bool (nm_yes hpos.out hl.out HG.out).symm, rfl⟩

set_option maxHeartbeats 3200000 in
theorem RProject_any (s : ByteArray) (w : World) (hs : s.size ≤ maxLen) :
    Calls Try.prog 12 #[.string s] w fun e w' => e = .returned (.bool (nm p1 p2 s.data.toList)) ∧ w = w' := by
  unfold maxLen at hs
  by_cases h0 : (s.size : Int) < 1
  · have H : Hid (nm p1 p2 s.data.toList = false) := Lib.hid (nm_nil (by rw [len_eq]; omega))
    go_enter Try.func12, Try.ntmps12
    go_wp2
    go_ret
    exact ⟨ret_bool H.out.symm, rfl⟩
  by_cases h1 : (24 : Int) < (s.size : Int)
  · have H : Hid (nm p1 p2 s.data.toList = false) := Lib.hid (nm_long (by rw [len_eq]; omega))
    go_enter Try.func12, Try.ntmps12
    go_wp2
    go_ret
    exact ⟨ret_bool H.out.symm, rfl⟩
  have hpos : Hid (0 < s.size) := Lib.hid (by omega)
  have hl : Hid (s.size ≤ 24) := Lib.hid (by omega)
  go_enter Try.func12, Try.ntmps12
  go_wp2
  go_loop [3, 4] (fun i kk => ∃ k : Nat, k ≤ s.size ∧ i = .int .i64 k ∧ good p1 p2 s.data.toList k) (fun i _ => s.size - (intOf i).toNat)
  case atStart => exact ⟨0, Nat.zero_le _, rfl, good_zero _ _ _⟩
  case round =>
    obtain ⟨k, hk, rfl, hall⟩ := hrel
    have HG := Lib.hid hall; clear hall
    by_cases hlt : k < s.size
    · have e2' := Lib.hid (getd s k hlt)
      have hcall := Kind_any s[k] w
      have K := Lib.hid (And.intro (k_p1 s[k]) (k_p2 s[k]))
      generalize kind s[k] = q at hcall K
      by_cases hk0 : k = 0
      · subst hk0
        have A : Hid (okAt p1 p2 0 s[0] = decide (q = 1 ∨ q = 3)) := Lib.hid (by unfold okAt; rw [if_pos rfl, K.out.1]; first | done | (rw [Bool.eq_iff_iff]; simp; done) | (rw [Bool.eq_iff_iff]; simp; omega))
        clear K
        by_cases z0 : (q : Int) = 0 <;> by_cases z2 : (q : Int) = 2 <;> by_cases z6 : (q : Int) = 6 <;> by_cases g3 : (3 : Int) < (q : Int)
        all_goals try (exfalso; omega)
        all_goals first | (have b0 : ((q : Int) == 0) = true := beq_iff_eq.2 z0) | (have b0 : ((q : Int) == 0) = false := beq_eq_false_iff_ne.2 z0)
        all_goals first | (have b2 : ((q : Int) == 2) = true := beq_iff_eq.2 z2) | (have b2 : ((q : Int) == 2) = false := beq_eq_false_iff_ne.2 z2)
        all_goals first | (have b6 : ((q : Int) == 6) = true := beq_iff_eq.2 z6) | (have b6 : ((q : Int) == 6) = false := beq_eq_false_iff_ne.2 z6)
        all_goals first | (have d3 : decide ((3 : Int) < (q : Int)) = true := decide_eq_true g3) | (have d3 : decide ((3 : Int) < (q : Int)) = false := decide_eq_false g3)
        all_goals
          go_wp2_with (go_at_call 36; refine hcall.mono ?_; rintro e w' ⟨rfl, rfl⟩)
          first
          | (go_ret
             exact ⟨ret_bool (nm_not (k := 0) (by rw [len_eq]; exact hlt) (by rw [e2'.out, A.out]; exact decide_eq_false (by omega))).symm, rfl⟩)
          | (refine ⟨⟨1, by omega, int_eq (by omega), good_succ HG.out (by rw [e2'.out, A.out]; exact decide_eq_true (by omega))⟩, ?_⟩
             first | (simp [intOf]; done) | (simp [intOf]; omega))
      · have hk0' : ¬ (k : Int) = 0 := by omega
        have A : Hid (okAt p1 p2 k s[k] = decide (q ≠ 0 ∧ q ≠ 2 ∧ q ≠ 6)) := Lib.hid (by unfold okAt; rw [if_neg hk0, K.out.2]; first | done | (rw [Bool.eq_iff_iff]; simp; done) | (rw [Bool.eq_iff_iff]; simp; omega))
        clear K
        by_cases z0 : (q : Int) = 0 <;> by_cases z2 : (q : Int) = 2 <;> by_cases z6 : (q : Int) = 6
        all_goals try (exfalso; omega)
        all_goals first | (have b0 : ((q : Int) == 0) = true := beq_iff_eq.2 z0) | (have b0 : ((q : Int) == 0) = false := beq_eq_false_iff_ne.2 z0)
        all_goals first | (have b2 : ((q : Int) == 2) = true := beq_iff_eq.2 z2) | (have b2 : ((q : Int) == 2) = false := beq_eq_false_iff_ne.2 z2)
        all_goals first | (have b6 : ((q : Int) == 6) = true := beq_iff_eq.2 z6) | (have b6 : ((q : Int) == 6) = false := beq_eq_false_iff_ne.2 z6)
        all_goals
          go_wp2_with (go_at_call 36; refine hcall.mono ?_; rintro e w' ⟨rfl, rfl⟩)
          first
          | (go_ret
             exact ⟨ret_bool (nm_not (k := k) (by rw [len_eq]; exact hlt) (by rw [e2'.out, A.out]; exact decide_eq_false (by omega))).symm, rfl⟩)
          | (refine ⟨⟨k + 1, by omega, int_eq (by omega), good_succ HG.out (by rw [e2'.out, A.out]; exact decide_eq_true (by omega))⟩, ?_⟩
             first | (simp [intOf]; done) | (simp [intOf]; omega))
    · go_wp2
      go_ret
      obtain rfl : k = s.size := by omega
      exact ⟨ret_bool (nm_yes hpos.out hl.out HG.out).symm, rfl⟩
end Go.Proofs.Ytbbijhgiddbonaa
