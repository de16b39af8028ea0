/- The contracts of power and Root. -/
import Derived.Test.YtefjdbgmakddjaaShaRd
import Derived.Test.YtefjdbgmakddjaaShaRootMath
import Derived.Test.YtefjdbgmakddjaaShelf
namespace Go.Proofs.Ytefjdbgmakddjaa
open Go.RowKit
open Sh Ro
set_option linter.unusedVariables false
theorem ret_uu {a b c d : Int} (h : a = b) (g : c = d) : Ending.returned (.tuple #[.int .u64 a, .int .u64 c]) = .returned (.tuple #[.int .u64 b, .int .u64 d]) := by rw [h, g]
theorem Mul64_q (x y h l : Nat) (w : World) (hx : x < 18446744073709551616) (hy : y < 18446744073709551616) (hh : x * y / 18446744073709551616 = h) (hl : x * y % 18446744073709551616 = l) :
    Calls Try.prog 34 #[.int .u64 x, .int .u64 y] w fun e w' => e = .returned (.tuple #[.int .u64 (h : Int), .int .u64 (l : Int)]) ∧ w = w' := by
  subst hh; subst hl
  exact (Try.bits_Mul64 x y hx hy w).mono fun e w' ⟨h1, h2⟩ => ⟨h1, h2.symm⟩
theorem wrap64u {n : Int} (h0 : 0 ≤ n) (h1 : n < 18446744073709551616) : IntKind.u64.wrap n = n := by rw [IntKind.wrap_u64]; omega

set_option maxHeartbeats 1000000 in
theorem power_any (x k : Nat) (w : World) (hx : x ≤ 137438953472) (hk : k = 2 ∨ k = 3) :
    Calls Try.prog 23 #[.int .u64 (x : Int), .int .i64 (k : Int)] w fun e w' => e = .returned (.tuple #[.int .u64 ((pw k x / 18446744073709551616 : Nat) : Int), .int .u64 ((pw k x % 18446744073709551616 : Nat) : Int)]) ∧ w = w' := by
  obtain ⟨h, hh⟩ : ∃ h, x * x / 18446744073709551616 = h := ⟨_, rfl⟩
  obtain ⟨l, hl⟩ : ∃ l, x * x % 18446744073709551616 = l := ⟨_, rfl⟩
  have HM := Lib.hid (Mul64_q x x h l w (by omega) (by omega) hh hl)
  rcases hk with rfl | rfl
  · have HP : Hid (pw 2 x / 18446744073709551616 = h ∧ pw 2 x % 18446744073709551616 = l) := Lib.hid (by unfold pw; rw [if_neg (by decide)]; exact ⟨hh, hl⟩)
    clear hh hl
    rw [HP.out.1, HP.out.2]
    go_enter Try.func23, Try.ntmps23
    go_wp2_with (go_at_call 34; refine HM.out.mono ?_; rintro e w1 ⟨rfl, rfl⟩)
    go_ret2
    exact ⟨rfl, rfl⟩
  · have hl1 : l < 18446744073709551616 := by omega
    obtain ⟨b1, b2⟩ := cube_bd hx
    obtain ⟨e1, e2⟩ := cube_upper x
    rw [hh, hl] at e1
    rw [hl] at e2
    rw [hh] at b1
    rw [hl] at b2
    obtain ⟨c, hc⟩ : ∃ c, l * x / 18446744073709551616 = c := ⟨_, rfl⟩
    obtain ⟨q, hq⟩ : ∃ q, l * x % 18446744073709551616 = q := ⟨_, rfl⟩
    have HM2 := Lib.hid (Mul64_q l x c q w hl1 (by omega) hc hq)
    obtain ⟨m, hm⟩ : ∃ m, h * x = m := ⟨_, rfl⟩
    have hmi : (h : Int) * (x : Int) = (m : Int) := by rw [← hm, Int.natCast_mul]
    rw [hc] at e1 b2
    rw [hm] at e1 b1
    rw [hq] at e2
    have HP : Hid (pw 3 x / 18446744073709551616 = m + c ∧ pw 3 x % 18446744073709551616 = q) := Lib.hid (by unfold pw; rw [if_pos rfl]; exact ⟨e1.symm, e2.symm⟩)
    have u1 : IntKind.u64.wrap (m : Int) = (m : Int) := wrap64u (by omega) (by omega)
    have u2 : IntKind.u64.wrap ((m : Int) + (c : Int)) = (m : Int) + (c : Int) := wrap64u (by omega) (by omega)
    clear hh hl e1 e2 hc hq hm
    rw [HP.out.1, HP.out.2]
    go_enter Try.func23, Try.ntmps23
    go_wp2_with fail
    refine HM.out.mono ?_
    rintro e w1 ⟨rfl, rfl⟩
    go_wp2_with fail
    refine HM2.out.mono ?_
    rintro e w1 ⟨rfl, rfl⟩
    go_wp2
    go_ret2
    exact ⟨ret_uu (by omega) rfl, rfl⟩
theorem power_q (x k u l : Nat) (kk : Int) (w : World) (hkk : kk = (k : Int)) (hx : x ≤ 137438953472) (hk : k = 2 ∨ k = 3) (hu : pw k x / 18446744073709551616 = u) (hl : pw k x % 18446744073709551616 = l) :
    Calls Try.prog 23 #[.int .u64 (x : Int), .int .i64 kk] w fun e w' => e = .returned (.tuple #[.int .u64 (u : Int), .int .u64 (l : Int)]) ∧ w = w' := by
  subst hu; subst hl; subst hkk; exact power_any x k w hx hk
theorem beq_t {a b : Int} (h : a = b) : (a == b) = true := by rw [h]; exact beq_self_eq_true _
theorem beq_f {a b : Int} (h : a ≠ b) : (a == b) = false := beq_eq_false_iff_ne.2 h

set_option maxHeartbeats 2000000 in
theorem Root_2 (p : Nat) (w : World) (h1 : 1 ≤ p) (h2 : p ≤ 1000) :
    Calls Try.prog 10 #[.int .i64 (p : Int), .int .i64 2] w fun e w' => e = .returned (.int .u32 ((rootN 2 p % 4294967296 : Nat) : Int)) ∧ w = w' := by
  have hp1 : ¬ (p : Int) < 1 := by omega
  have hp2 : ¬ (1000 : Int) < (p : Int) := by omega
  obtain ⟨R, hR⟩ : ∃ R, rad 2 p = R := ⟨_, rfl⟩
  have HE : Hid ((p : Int) = (R : Int)) := Lib.hid (by rw [← hR]; unfold rad; simp)
  have HT := Lib.hid fun x => pw_test 2 p x
  rw [hR] at HT
  have HRR : Hid (∀ x, IsRoot 2 p x → rootN 2 p = x) := Lib.hid fun x h => rootN_of h2 h
  have HZ : Hid (pw 2 0 ≤ top 2 p ∧ top 2 p < pw 2 137438953472) := Lib.hid ⟨by rw [pw_zero]; exact Nat.zero_le _, pw_big h2⟩
  obtain ⟨Z, hZ⟩ : ∃ Z, rootN 2 p = Z := ⟨_, rfl⟩
  rw [hZ] at HRR ⊢
  clear hZ hR
  have hu : IntKind.u64.wrap (p : Int) = (p : Int) := wrap64u (by omega) (by omega)
  have hu2 : IntKind.u64.wrap ((p : Int) * 4294967296) = (p : Int) * 4294967296 := wrap64u (by omega) (by omega)
  go_enter Try.func10, Try.ntmps10
  go_wp2
  go_loop [6, 7] (fun sl sh => ∃ lo hi : Nat, sl = .int .u64 (lo : Int) ∧ sh = .int .u64 (hi : Int) ∧ lo < hi ∧ hi ≤ 137438953472 ∧ pw 2 lo ≤ top 2 p ∧ top 2 p < pw 2 hi) (fun sl sh => (intOf sh).toNat - (intOf sl).toNat)
  case atStart => exact ⟨0, 137438953472, rfl, rfl, by omega, by omega, HZ.out.1, HZ.out.2⟩
  case round =>
    obtain ⟨lo, hi, rfl, rfl, hlh, hhi, hlo, hhi2⟩ := hrel
    have HL := Lib.hid hlo
    have HH := Lib.hid hhi2
    clear hlo hhi2
    have u1 : IntKind.u64.wrap ((hi : Int) - (lo : Int)) = (hi : Int) - (lo : Int) := wrap64u (by omega) (by omega)
    by_cases hgt : lo + 1 < hi
    · obtain ⟨m, hm⟩ : ∃ m : Nat, (lo + hi) / 2 = m := ⟨_, rfl⟩
      have m1 : lo < m := by omega
      have m2 : m < hi := by omega
      have g1 : (1 : Int) < (hi : Int) - (lo : Int) := by omega
      have u2 : IntKind.u64.wrap ((lo : Int) + (hi : Int)) = (lo : Int) + (hi : Int) := wrap64u (by omega) (by omega)
      have u3 : ((lo : Int) + (hi : Int)).tdiv 2 = (m : Int) := by rw [Int.tdiv_eq_ediv_of_nonneg (by omega)]; omega
      have u4 : ((lo : Int) + (hi : Int)) / 2 = (m : Int) := by omega
      have u5 : IntKind.u64.wrap (m : Int) = (m : Int) := wrap64u (by omega) (by omega)
      clear hm
      obtain ⟨U, hU⟩ : ∃ U, pw 2 m / 18446744073709551616 = U := ⟨_, rfl⟩
      obtain ⟨L, hL⟩ : ∃ L, pw 2 m % 18446744073709551616 = L := ⟨_, rfl⟩
      have HQ := Lib.hid (power_q m 2 U L 2 w rfl (by omega) (by decide) hU hL)
      have HTm := HT.out m
      rw [hU, hL] at HTm
      have HTM := Lib.hid HTm
      clear hU hL HTm
      by_cases hlt : U < R
      · have HY : Hid (pw 2 m ≤ top 2 p) := Lib.hid (HTM.out.2 (.inl hlt))
        have t1 : (U : Int) < (p : Int) := by rw [HE.out]; omega
        clear hlt
        go_wp2_with (go_at_call 23; refine HQ.out.mono ?_; rintro e w1 ⟨rfl, rfl⟩)
        go_round
        case rel => exact ⟨m, hi, rfl, rfl, m2, hhi, HY.out, HH.out⟩
        case measure => simp [intOf]; omega
      · have t1 : ¬ (U : Int) < (p : Int) := by rw [HE.out]; omega
        by_cases heq : U = R ∧ L = 0
        · have HY : Hid (pw 2 m ≤ top 2 p) := Lib.hid (HTM.out.2 (.inr heq))
          have t2 : ((U : Int) == (p : Int)) = true := beq_t (by rw [HE.out]; omega)
          have t3 : ((L : Int) == 0) = true := beq_t (by omega)
          clear hlt heq
          go_wp2_with (go_at_call 23; refine HQ.out.mono ?_; rintro e w1 ⟨rfl, rfl⟩)
          go_round
          case rel => exact ⟨m, hi, rfl, rfl, m2, hhi, HY.out, HH.out⟩
          case measure => simp [intOf]; omega
        · have HN : Hid (top 2 p < pw 2 m) := Lib.hid (by
            apply Nat.lt_of_not_le; intro hc
            rcases HTM.out.1 hc with h | h
            · exact hlt h
            · exact heq h)
          by_cases he : U = R
          · have t2 : ((U : Int) == (p : Int)) = true := beq_t (by rw [HE.out]; omega)
            have t3 : ((L : Int) == 0) = false := beq_f (by omega)
            clear hlt heq he
            go_wp2_with (go_at_call 23; refine HQ.out.mono ?_; rintro e w1 ⟨rfl, rfl⟩)
            go_round
            case rel => exact ⟨lo, m, rfl, rfl, m1, by omega, HL.out, HN.out⟩
            case measure => simp [intOf]; omega
          · have t2 : ((U : Int) == (p : Int)) = false := beq_f (by rw [HE.out]; omega)
            clear hlt heq he
            go_wp2_with (go_at_call 23; refine HQ.out.mono ?_; rintro e w1 ⟨rfl, rfl⟩)
            go_round
            case rel => exact ⟨lo, m, rfl, rfl, m1, by omega, HL.out, HN.out⟩
            case measure => simp [intOf]; omega
    · have g1 : ¬ (1 : Int) < (hi : Int) - (lo : Int) := by omega
      have HX : Hid (Z = lo) := Lib.hid (HRR.out lo ⟨HL.out, by rw [show lo + 1 = hi by omega]; exact HH.out⟩)
      go_wp2
      go_ret
      exact ⟨by rw [HX.out]; exact ret_u (by omega), rfl⟩
set_option maxHeartbeats 2000000 in
theorem Root_3 (p : Nat) (w : World) (h1 : 1 ≤ p) (h2 : p ≤ 1000) :
    Calls Try.prog 10 #[.int .i64 (p : Int), .int .i64 3] w fun e w' => e = .returned (.int .u32 ((rootN 3 p % 4294967296 : Nat) : Int)) ∧ w = w' := by
  have hp1 : ¬ (p : Int) < 1 := by omega
  have hp2 : ¬ (1000 : Int) < (p : Int) := by omega
  obtain ⟨R, hR⟩ : ∃ R, rad 3 p = R := ⟨_, rfl⟩
  have HE : Hid ((R : Int) = (R : Int)) := Lib.hid rfl
  have hE : (p : Int) * 4294967296 = (R : Int) := by rw [← hR]; unfold rad; simp
  have HT := Lib.hid fun x => pw_test 3 p x
  rw [hR] at HT
  have HRR : Hid (∀ x, IsRoot 3 p x → rootN 3 p = x) := Lib.hid fun x h => rootN_of h2 h
  have HZ : Hid (pw 3 0 ≤ top 3 p ∧ top 3 p < pw 3 137438953472) := Lib.hid ⟨by rw [pw_zero]; exact Nat.zero_le _, pw_big h2⟩
  obtain ⟨Z, hZ⟩ : ∃ Z, rootN 3 p = Z := ⟨_, rfl⟩
  rw [hZ] at HRR ⊢
  clear hZ hR
  have hu : IntKind.u64.wrap (p : Int) = (p : Int) := wrap64u (by omega) (by omega)
  have hu2 : IntKind.u64.wrap ((p : Int) * 4294967296) = (R : Int) := by rw [wrap64u (by omega) (by omega)]; exact hE
  clear hE
  go_enter Try.func10, Try.ntmps10
  go_wp2
  go_loop [6, 7] (fun sl sh => ∃ lo hi : Nat, sl = .int .u64 (lo : Int) ∧ sh = .int .u64 (hi : Int) ∧ lo < hi ∧ hi ≤ 137438953472 ∧ pw 3 lo ≤ top 3 p ∧ top 3 p < pw 3 hi) (fun sl sh => (intOf sh).toNat - (intOf sl).toNat)
  case atStart => exact ⟨0, 137438953472, rfl, rfl, by omega, by omega, HZ.out.1, HZ.out.2⟩
  case round =>
    obtain ⟨lo, hi, rfl, rfl, hlh, hhi, hlo, hhi2⟩ := hrel
    have HL := Lib.hid hlo
    have HH := Lib.hid hhi2
    clear hlo hhi2
    have u1 : IntKind.u64.wrap ((hi : Int) - (lo : Int)) = (hi : Int) - (lo : Int) := wrap64u (by omega) (by omega)
    by_cases hgt : lo + 1 < hi
    · obtain ⟨m, hm⟩ : ∃ m : Nat, (lo + hi) / 2 = m := ⟨_, rfl⟩
      have m1 : lo < m := by omega
      have m2 : m < hi := by omega
      have g1 : (1 : Int) < (hi : Int) - (lo : Int) := by omega
      have u2 : IntKind.u64.wrap ((lo : Int) + (hi : Int)) = (lo : Int) + (hi : Int) := wrap64u (by omega) (by omega)
      have u3 : ((lo : Int) + (hi : Int)).tdiv 2 = (m : Int) := by rw [Int.tdiv_eq_ediv_of_nonneg (by omega)]; omega
      have u4 : ((lo : Int) + (hi : Int)) / 2 = (m : Int) := by omega
      have u5 : IntKind.u64.wrap (m : Int) = (m : Int) := wrap64u (by omega) (by omega)
      clear hm
      obtain ⟨U, hU⟩ : ∃ U, pw 3 m / 18446744073709551616 = U := ⟨_, rfl⟩
      obtain ⟨L, hL⟩ : ∃ L, pw 3 m % 18446744073709551616 = L := ⟨_, rfl⟩
      have HQ := Lib.hid (power_q m 3 U L 3 w rfl (by omega) (by decide) hU hL)
      have HTm := HT.out m
      rw [hU, hL] at HTm
      have HTM := Lib.hid HTm
      clear hU hL HTm
      by_cases hlt : U < R
      · have HY : Hid (pw 3 m ≤ top 3 p) := Lib.hid (HTM.out.2 (.inl hlt))
        have t1 : (U : Int) < (R : Int) := by omega
        clear hlt
        go_wp2_with (go_at_call 23; refine HQ.out.mono ?_; rintro e w1 ⟨rfl, rfl⟩)
        go_round
        case rel => exact ⟨m, hi, rfl, rfl, m2, hhi, HY.out, HH.out⟩
        case measure => simp [intOf]; omega
      · have t1 : ¬ (U : Int) < (R : Int) := by omega
        by_cases heq : U = R ∧ L = 0
        · have HY : Hid (pw 3 m ≤ top 3 p) := Lib.hid (HTM.out.2 (.inr heq))
          have t2 : ((U : Int) == (R : Int)) = true := beq_t (by omega)
          have t3 : ((L : Int) == 0) = true := beq_t (by omega)
          obtain ⟨he1, he2⟩ := heq
          subst he1
          clear hlt he2
          go_wp2_with (go_at_call 23; refine HQ.out.mono ?_; rintro e w1 ⟨rfl, rfl⟩)
          go_round
          case rel => exact ⟨m, hi, rfl, rfl, m2, hhi, HY.out, HH.out⟩
          case measure => simp [intOf]; omega
        · have HN : Hid (top 3 p < pw 3 m) := Lib.hid (by
            apply Nat.lt_of_not_le; intro hc
            rcases HTM.out.1 hc with h | h
            · exact hlt h
            · exact heq h)
          by_cases he : U = R
          · have t2 : ((U : Int) == (R : Int)) = true := beq_t (by omega)
            have t3 : ((L : Int) == 0) = false := beq_f (by omega)
            clear hlt heq
            subst he
            go_wp2_with (go_at_call 23; refine HQ.out.mono ?_; rintro e w1 ⟨rfl, rfl⟩)
            go_round
            case rel => exact ⟨lo, m, rfl, rfl, m1, by omega, HL.out, HN.out⟩
            case measure => simp [intOf]; omega
          · have t2 : ((U : Int) == (R : Int)) = false := beq_f (by omega)
            clear hlt heq he
            go_wp2_with (go_at_call 23; refine HQ.out.mono ?_; rintro e w1 ⟨rfl, rfl⟩)
            go_round
            case rel => exact ⟨lo, m, rfl, rfl, m1, by omega, HL.out, HN.out⟩
            case measure => simp [intOf]; omega
    · have g1 : ¬ (1 : Int) < (hi : Int) - (lo : Int) := by omega
      have HX : Hid (Z = lo) := Lib.hid (HRR.out lo ⟨HL.out, by rw [show lo + 1 = hi by omega]; exact HH.out⟩)
      go_wp2
      go_ret
      exact ⟨by rw [HX.out]; exact ret_u (by omega), rfl⟩
end Go.Proofs.Ytefjdbgmakddjaa
