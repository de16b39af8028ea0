/- RefPlain -/
import Derived.Test.YtmdgpejedbkkdaaGreatDoorWT10
set_option linter.unusedVariables false
set_option linter.unusedSimpArgs false
set_option maxRecDepth 100000
set_option maxHeartbeats 16000000
open Go.Lib (hid)
namespace Go.Proofs.YtmdgpejedbkkdaaGreatDoor
section
open Go.RowKit
open Q6
theorem refH_no {l : List UInt8} (h : isC 32 (l.getD 0 0) = true ∨ isC 32 (l.getD (l.length - 1) 0) = true ∨ has firsts (l.getD 0 0) = true ∨ (isC 45 (l.getD 0 0) = true ∧ (l.length = 1 ∨ isC 32 (l.getD 1 0) = true))) : refH l = false := by
 unfold refH
 rcases h with h | h | h | ⟨h, h2 | h2⟩
 ·rw [h]; simp
 ·rw [h]; simp
 ·rw [h]; simp
 ·rw [h, decide_eq_true h2]; simp
 ·rw [h, h2]; simp
theorem refH_yes {l : List UInt8} (h1 : isC 32 (l.getD 0 0) = false) (h2 : isC 32 (l.getD (l.length - 1) 0) = false) (h3 : has firsts (l.getD 0 0) = false) (h4 : isC 45 (l.getD 0 0) = false ∨ (l.length ≠ 1 ∧ isC 32 (l.getD 1 0) = false)) : refH l = true := by
 unfold refH
 rw [h1, h2, h3]
 rcases h4 with h4 | ⟨h4, h5⟩
 ·rw [h4]; rfl
 ·rw [decide_eq_false h4, h5]; simp
theorem rp_begin (s : ByteArray) (w : World) (n : Nat) (hn : s.size = n) (hs : n ≤ 1000000) (b0 : s.toList.isEmpty = false) (b0' : ¬ s.toList = []) (b1 : (s.toList == [126]) = false) (b2 : (s.toList == [110, 117, 108, 108]) = false) (hp : 0 < s.size) (c0 : UInt8) (hc0 : s[0] = c0) (m0 : ((c0.toNat : Int) == 32) = true)  :
  Calls Tryz.prog 27 #[.string s] w fun e w' => e = .returned (.bool false) ∧ w = w' := by
 have hnz : ((n : Int) == 0) = false := beq_eq_false_iff_ne.2 (by omega)
 have hn1 : (1 : Int) ≤ (n : Int) := by omega
 have hpz : (0 : Int) < (n : Int) := by omega
 have wn : IntKind.i64.wrap ((n : Int) - 1) = (n : Int) - 1 := IntWalk.i64_in _ (by omega)
 have pn : 0 ≤ (n : Int) - 1 := by omega
 have tn : ((n : Int) - 1).toNat = n - 1 := by omega
 have ln : (n : Int) - 1 < (n : Int) := by omega
 go_enter Tryz.func27, Tryz.ntmps27
 go_wp2
 go_ret
 exact ⟨rfl, rfl⟩
theorem rp_last (s : ByteArray) (w : World) (n : Nat) (hn : s.size = n) (hs : n ≤ 1000000) (b0 : s.toList.isEmpty = false) (b0' : ¬ s.toList = []) (b1 : (s.toList == [126]) = false) (b2 : (s.toList == [110, 117, 108, 108]) = false) (hp : 0 < s.size) (c0 : UInt8) (hc0 : s[0] = c0) (m0 : ((c0.toNat : Int) == 32) = false) (cl : UInt8) (hl : n - 1 < s.size) (hcl : s[n - 1] = cl) (ml : ((cl.toNat : Int) == 32) = true)  :
  Calls Tryz.prog 27 #[.string s] w fun e w' => e = .returned (.bool false) ∧ w = w' := by
 have hnz : ((n : Int) == 0) = false := beq_eq_false_iff_ne.2 (by omega)
 have hn1 : (1 : Int) ≤ (n : Int) := by omega
 have hpz : (0 : Int) < (n : Int) := by omega
 have wn : IntKind.i64.wrap ((n : Int) - 1) = (n : Int) - 1 := IntWalk.i64_in _ (by omega)
 have pn : 0 ≤ (n : Int) - 1 := by omega
 have tn : ((n : Int) - 1).toNat = n - 1 := by omega
 have ln : (n : Int) - 1 < (n : Int) := by omega
 go_enter Tryz.func27, Tryz.ntmps27
 go_wp2
 go_ret
 exact ⟨rfl, rfl⟩
theorem rp_first (s : ByteArray) (w : World) (n : Nat) (hn : s.size = n) (hs : n ≤ 1000000) (b0 : s.toList.isEmpty = false) (b0' : ¬ s.toList = []) (b1 : (s.toList == [126]) = false) (b2 : (s.toList == [110, 117, 108, 108]) = false) (hp : 0 < s.size) (c0 : UInt8) (hc0 : s[0] = c0) (m0 : ((c0.toNat : Int) == 32) = false) (cl : UInt8) (hl : n - 1 < s.size) (hcl : s[n - 1] = cl) (ml : ((cl.toNat : Int) == 32) = false) (HF : Hid (has firsts c0 = true)) :
  Calls Tryz.prog 27 #[.string s] w fun e w' => e = .returned (.bool false) ∧ w = w' := by
 have hnz : ((n : Int) == 0) = false := beq_eq_false_iff_ne.2 (by omega)
 have hn1 : (1 : Int) ≤ (n : Int) := by omega
 have hpz : (0 : Int) < (n : Int) := by omega
 have wn : IntKind.i64.wrap ((n : Int) - 1) = (n : Int) - 1 := IntWalk.i64_in _ (by omega)
 have pn : 0 ≤ (n : Int) - 1 := by omega
 have tn : ((n : Int) - 1).toNat = n - 1 := by omega
 have ln : (n : Int) - 1 < (n : Int) := by omega
 go_enter Tryz.func27, Tryz.ntmps27
 go_wp2_with (go_at_call 46; refine (one_first c0 true _ HF.out).mono ?_; rintro e w' ⟨rfl, rfl⟩)
 go_ret
 exact ⟨rfl, rfl⟩
theorem rp_one (s : ByteArray) (w : World) (n : Nat) (hn : s.size = n) (hs : n ≤ 1000000) (b0 : s.toList.isEmpty = false) (b0' : ¬ s.toList = []) (b1 : (s.toList == [126]) = false) (b2 : (s.toList == [110, 117, 108, 108]) = false) (hp : 0 < s.size) (c0 : UInt8) (hc0 : s[0] = c0) (m0 : ((c0.toNat : Int) == 32) = false) (cl : UInt8) (hl : n - 1 < s.size) (hcl : s[n - 1] = cl) (ml : ((cl.toNat : Int) == 32) = false) (HF : Hid (has firsts c0 = false)) (m45 : ((c0.toNat : Int) == 45) = true) (h1 : ((n : Int) == 1) = true) :
  Calls Tryz.prog 27 #[.string s] w fun e w' => e = .returned (.bool false) ∧ w = w' := by
 have hnz : ((n : Int) == 0) = false := beq_eq_false_iff_ne.2 (by omega)
 have hn1 : (1 : Int) ≤ (n : Int) := by omega
 have hpz : (0 : Int) < (n : Int) := by omega
 have wn : IntKind.i64.wrap ((n : Int) - 1) = (n : Int) - 1 := IntWalk.i64_in _ (by omega)
 have pn : 0 ≤ (n : Int) - 1 := by omega
 have tn : ((n : Int) - 1).toNat = n - 1 := by omega
 have ln : (n : Int) - 1 < (n : Int) := by omega
 have hone : (n : Int) = 1 := beq_iff_eq.1 h1
 clear hone
 go_enter Tryz.func27, Tryz.ntmps27
 go_wp2_with (go_at_call 46; refine (one_first c0 false _ HF.out).mono ?_; rintro e w' ⟨rfl, rfl⟩)
 go_ret
 exact ⟨rfl, rfl⟩
theorem rp_space (s : ByteArray) (w : World) (n : Nat) (hn : s.size = n) (hs : n ≤ 1000000) (b0 : s.toList.isEmpty = false) (b0' : ¬ s.toList = []) (b1 : (s.toList == [126]) = false) (b2 : (s.toList == [110, 117, 108, 108]) = false) (hp : 0 < s.size) (c0 : UInt8) (hc0 : s[0] = c0) (m0 : ((c0.toNat : Int) == 32) = false) (cl : UInt8) (hl : n - 1 < s.size) (hcl : s[n - 1] = cl) (ml : ((cl.toNat : Int) == 32) = false) (HF : Hid (has firsts c0 = false)) (m45 : ((c0.toNat : Int) == 45) = true) (h1 : ((n : Int) == 1) = false) (i1 : 1 < s.size) (i1z : (1 : Int) < (n : Int)) (c1 : UInt8) (hc1 : s[1] = c1) (m1 : ((c1.toNat : Int) == 32) = true)  :
  Calls Tryz.prog 27 #[.string s] w fun e w' => e = .returned (.bool false) ∧ w = w' := by
 have hnz : ((n : Int) == 0) = false := beq_eq_false_iff_ne.2 (by omega)
 have hn1 : (1 : Int) ≤ (n : Int) := by omega
 have hpz : (0 : Int) < (n : Int) := by omega
 have wn : IntKind.i64.wrap ((n : Int) - 1) = (n : Int) - 1 := IntWalk.i64_in _ (by omega)
 have pn : 0 ≤ (n : Int) - 1 := by omega
 have tn : ((n : Int) - 1).toNat = n - 1 := by omega
 have ln : (n : Int) - 1 < (n : Int) := by omega
 go_enter Tryz.func27, Tryz.ntmps27
 go_wp2_with (go_at_call 46; refine (one_first c0 false _ HF.out).mono ?_; rintro e w' ⟨rfl, rfl⟩)
 go_ret
 exact ⟨rfl, rfl⟩
theorem rp_loop45 (s : ByteArray) (w : World) (n : Nat) (hn : s.size = n) (hs : n ≤ 1000000) (b0 : s.toList.isEmpty = false) (b0' : ¬ s.toList = []) (b1 : (s.toList == [126]) = false) (b2 : (s.toList == [110, 117, 108, 108]) = false) (hp : 0 < s.size) (c0 : UInt8) (hc0 : s[0] = c0) (m0 : ((c0.toNat : Int) == 32) = false) (cl : UInt8) (hl : n - 1 < s.size) (hcl : s[n - 1] = cl) (ml : ((cl.toNat : Int) == 32) = false) (HF : Hid (has firsts c0 = false)) (m45 : ((c0.toNat : Int) == 45) = true) (h1 : ((n : Int) == 1) = false) (i1 : 1 < s.size) (i1z : (1 : Int) < (n : Int)) (c1 : UInt8) (hc1 : s[1] = c1) (m1 : ((c1.toNat : Int) == 32) = false) (r : Bool) (HYES : Hid ((∀ j, j < s.data.toList.length → refI s.data.toList j = true) → r = true)) (HNO : Hid (∀ k, k < s.data.toList.length → refI s.data.toList k = false → r = false))  :
  Calls Tryz.prog 27 #[.string s] w fun e w' => e = .returned (.bool r) ∧ w = w' := by
 have hnz : ((n : Int) == 0) = false := beq_eq_false_iff_ne.2 (by omega)
 have hn1 : (1 : Int) ≤ (n : Int) := by omega
 have hpz : (0 : Int) < (n : Int) := by omega
 have wn : IntKind.i64.wrap ((n : Int) - 1) = (n : Int) - 1 := IntWalk.i64_in _ (by omega)
 have pn : 0 ≤ (n : Int) - 1 := by omega
 have tn : ((n : Int) - 1).toNat = n - 1 := by omega
 have ln : (n : Int) - 1 < (n : Int) := by omega
 have HLEN : Hid (s.data.toList.length = n) := hid ((len_eq s).trans hn)
 go_enter Tryz.func27, Tryz.ntmps27
 go_wp2_with (go_at_call 46; refine (one_first c0 false _ HF.out).mono ?_; rintro e w' ⟨rfl, rfl⟩)
 go_loop [4] (fun i => ∃ k : Nat, k ≤ n ∧ i = .int .i64 k ∧ ∀ j, j < k → refI s.data.toList j = true) (fun i => n - (intOf i).toNat)
 case atStart => exact ⟨0, Nat.zero_le _, rfl, fun j h => absurd h (Nat.not_lt_zero _)⟩
 case round =>
  obtain ⟨k, hk, rfl, hall⟩ := hrel
  have HA := hid hall; clear hall
  by_cases hlt : k < n
  ·have hks : k < s.size := by omega
   have hkz : (k : Int) < (n : Int) := by omega
   obtain ⟨c, hc⟩ : ∃ c, s[k]'hks = c := ⟨_, rfl⟩
   have HG := hid ((getd s k hks).trans hc)
   have HRI : Hid (refI s.data.toList k = (good c && !(isC 58 c && (decide (k + 1 = n) || isC 32 (s.data.toList.getD (k + 1) 0))) && !(isC 35 c && decide (0 < k) && isC 32 (s.data.toList.getD (k - 1) 0)))) := hid (by
    unfold refI; rw [HG.out, HLEN.out])
   have HKL : Hid (k < s.data.toList.length) := hid (by rw [HLEN.out]; exact hlt)
   have wk : IntKind.i64.wrap ((k : Int) - 1) = (k : Int) - 1 := IntWalk.i64_in _ (by omega)
   rcases Bool.eq_false_or_eq_true (good c) with hg | hg
   ·have HP := hid hg
    rw [hg] at HRI
    clear hg
    by_cases h58 : isC 58 c = true
    ·have m58 : ((c.toNat : Int) == 58) = true := (isC_beq 58 c 58 rfl).trans h58
     have h35 := isC_ne h58 (show (58 : UInt8) ≠ 35 by decide)
     have m35 : ((c.toNat : Int) == 35) = false := (isC_beq 35 c 35 rfl).trans h35
     rw [h58, h35] at HRI
     by_cases hla : k + 1 = n
     ·have ek : ((k : Int) == (n : Int) - 1) = true := beq_iff_eq.2 (by omega)
      have ek' : (k : Int) = (n : Int) - 1 := by omega
      have HX : Hid (refI s.data.toList k = false) := hid (by rw [HRI.out, decide_eq_true hla]; rfl)
      clear h58 h35 hla ek'
      go_wp2_with (go_at_call 47; refine (Good_q c true _ HP.out).mono ?_; rintro e w' ⟨rfl, rfl⟩)
      go_ret
      exact ⟨ret_b (HNO.out k HKL.out HX.out).symm, rfl⟩
     ·have ek : ((k : Int) == (n : Int) - 1) = false := beq_eq_false_iff_ne.2 (by omega)
      have ek' : ¬ (k : Int) = (n : Int) - 1 := by omega
      have hk1 : k + 1 < s.size := by omega
      have hk1z : (k : Int) + 1 < (n : Int) := by omega
      obtain ⟨d, hd⟩ : ∃ d, s[k + 1]'hk1 = d := ⟨_, rfl⟩
      rw [decide_eq_false hla, (getd s (k + 1) hk1).trans hd] at HRI
      clear hla
      rcases Bool.eq_false_or_eq_true (isC 32 d) with h32 | h32
      ·have m32 : ((d.toNat : Int) == 32) = true := (isC_beq 32 d 32 rfl).trans h32
       have HX : Hid (refI s.data.toList k = false) := hid (by rw [HRI.out, h32]; rfl)
       clear h58 h35 h32
       go_wp2_with (go_at_call 47; refine (Good_q c true _ HP.out).mono ?_; rintro e w' ⟨rfl, rfl⟩)
       go_ret
       exact ⟨ret_b (HNO.out k HKL.out HX.out).symm, rfl⟩
      ·have m32 : ((d.toNat : Int) == 32) = false := (isC_beq 32 d 32 rfl).trans h32
       have HX : Hid (refI s.data.toList k = true) := hid (by rw [HRI.out, h32]; rfl)
       clear h58 h35 h32
       go_wp2_with (go_at_call 47; refine (Good_q c true _ HP.out).mono ?_; rintro e w' ⟨rfl, rfl⟩)
       go_round
       case rel =>
        refine ⟨k + 1, by omega, by go_num, fun j hjk => ?_⟩
        rcases Nat.lt_succ_iff_lt_or_eq.1 hjk with h | h
        ·exact HA.out j h
        ·subst h; exact HX.out
       case measure => simp [intOf]; omega
    ·have h58 := Bool.eq_false_iff.2 h58
     have m58 : ((c.toNat : Int) == 58) = false := (isC_beq 58 c 58 rfl).trans h58
     rw [h58] at HRI
     by_cases h35 : isC 35 c = true
     ·have m35 : ((c.toNat : Int) == 35) = true := (isC_beq 35 c 35 rfl).trans h35
      rw [h35] at HRI
      by_cases hk0 : 0 < k
      ·have hk0z : (0 : Int) < (k : Int) := by omega
       have hk0y : (1 : Int) ≤ (k : Int) := by omega
       have pk : 0 ≤ (k : Int) - 1 := by omega
       have tk : ((k : Int) - 1).toNat = k - 1 := by omega
       have lk : (k : Int) - 1 < (n : Int) := by omega
       have hkm : k - 1 < s.size := by omega
       obtain ⟨d, hd⟩ : ∃ d, s[k - 1]'hkm = d := ⟨_, rfl⟩
       rw [decide_eq_true hk0, (getd s (k - 1) hkm).trans hd] at HRI
       rcases Bool.eq_false_or_eq_true (isC 32 d) with h32 | h32
       ·have m32 : ((d.toNat : Int) == 32) = true := (isC_beq 32 d 32 rfl).trans h32
        have HX : Hid (refI s.data.toList k = false) := hid (by rw [HRI.out, h32]; rfl)
        clear h58 h35 h32
        go_wp2_with (go_at_call 47; refine (Good_q c true _ HP.out).mono ?_; rintro e w' ⟨rfl, rfl⟩)
        go_ret
        exact ⟨ret_b (HNO.out k HKL.out HX.out).symm, rfl⟩
       ·have m32 : ((d.toNat : Int) == 32) = false := (isC_beq 32 d 32 rfl).trans h32
        have HX : Hid (refI s.data.toList k = true) := hid (by rw [HRI.out, h32]; rfl)
        clear h58 h35 h32
        go_wp2_with (go_at_call 47; refine (Good_q c true _ HP.out).mono ?_; rintro e w' ⟨rfl, rfl⟩)
        go_round
        case rel =>
         refine ⟨k + 1, by omega, by go_num, fun j hjk => ?_⟩
         rcases Nat.lt_succ_iff_lt_or_eq.1 hjk with h | h
         ·exact HA.out j h
         ·subst h; exact HX.out
        case measure => simp [intOf]; omega
      ·have HX : Hid (refI s.data.toList k = true) := hid (by rw [HRI.out, decide_eq_false hk0]; rfl)
       have hk0z : ¬ (0 : Int) < (k : Int) := by omega
       clear h58 h35 wk
       go_wp2_with (go_at_call 47; refine (Good_q c true _ HP.out).mono ?_; rintro e w' ⟨rfl, rfl⟩)
       go_round
       case rel =>
        refine ⟨k + 1, by omega, by go_num, fun j hjk => ?_⟩
        rcases Nat.lt_succ_iff_lt_or_eq.1 hjk with h | h
        ·exact HA.out j h
        ·subst h; exact HX.out
       case measure => simp [intOf]; omega
     ·have h35 := Bool.eq_false_iff.2 h35
      have m35 : ((c.toNat : Int) == 35) = false := (isC_beq 35 c 35 rfl).trans h35
      have HX : Hid (refI s.data.toList k = true) := hid (by rw [HRI.out, h35]; rfl)
      clear h58 h35
      go_wp2_with (go_at_call 47; refine (Good_q c true _ HP.out).mono ?_; rintro e w' ⟨rfl, rfl⟩)
      go_round
      case rel =>
       refine ⟨k + 1, by omega, by go_num, fun j hjk => ?_⟩
       rcases Nat.lt_succ_iff_lt_or_eq.1 hjk with h | h
       ·exact HA.out j h
       ·subst h; exact HX.out
      case measure => simp [intOf]; omega
   ·have HP := hid hg
    have HX : Hid (refI s.data.toList k = false) := hid (by rw [HRI.out, hg]; rfl)
    clear hg
    go_wp2_with (go_at_call 47; refine (Good_q c false _ HP.out).mono ?_; rintro e w' ⟨rfl, rfl⟩)
    go_ret
    exact ⟨ret_b (HNO.out k HKL.out HX.out).symm, rfl⟩
  ·go_wp2
   go_ret
   exact ⟨ret_b (HYES.out (fun j hj => HA.out j (by rw [HLEN.out] at hj; omega))).symm, rfl⟩
theorem rp_loop (s : ByteArray) (w : World) (n : Nat) (hn : s.size = n) (hs : n ≤ 1000000) (b0 : s.toList.isEmpty = false) (b0' : ¬ s.toList = []) (b1 : (s.toList == [126]) = false) (b2 : (s.toList == [110, 117, 108, 108]) = false) (hp : 0 < s.size) (c0 : UInt8) (hc0 : s[0] = c0) (m0 : ((c0.toNat : Int) == 32) = false) (cl : UInt8) (hl : n - 1 < s.size) (hcl : s[n - 1] = cl) (ml : ((cl.toNat : Int) == 32) = false) (HF : Hid (has firsts c0 = false)) (m45 : ((c0.toNat : Int) == 45) = false) (r : Bool) (HYES : Hid ((∀ j, j < s.data.toList.length → refI s.data.toList j = true) → r = true)) (HNO : Hid (∀ k, k < s.data.toList.length → refI s.data.toList k = false → r = false))  :
  Calls Tryz.prog 27 #[.string s] w fun e w' => e = .returned (.bool r) ∧ w = w' := by
 have hnz : ((n : Int) == 0) = false := beq_eq_false_iff_ne.2 (by omega)
 have hn1 : (1 : Int) ≤ (n : Int) := by omega
 have hpz : (0 : Int) < (n : Int) := by omega
 have wn : IntKind.i64.wrap ((n : Int) - 1) = (n : Int) - 1 := IntWalk.i64_in _ (by omega)
 have pn : 0 ≤ (n : Int) - 1 := by omega
 have tn : ((n : Int) - 1).toNat = n - 1 := by omega
 have ln : (n : Int) - 1 < (n : Int) := by omega
 have HLEN : Hid (s.data.toList.length = n) := hid ((len_eq s).trans hn)
 go_enter Tryz.func27, Tryz.ntmps27
 go_wp2_with (go_at_call 46; refine (one_first c0 false _ HF.out).mono ?_; rintro e w' ⟨rfl, rfl⟩)
 go_loop [4] (fun i => ∃ k : Nat, k ≤ n ∧ i = .int .i64 k ∧ ∀ j, j < k → refI s.data.toList j = true) (fun i => n - (intOf i).toNat)
 case atStart => exact ⟨0, Nat.zero_le _, rfl, fun j h => absurd h (Nat.not_lt_zero _)⟩
 case round =>
  obtain ⟨k, hk, rfl, hall⟩ := hrel
  have HA := hid hall; clear hall
  by_cases hlt : k < n
  ·have hks : k < s.size := by omega
   have hkz : (k : Int) < (n : Int) := by omega
   obtain ⟨c, hc⟩ : ∃ c, s[k]'hks = c := ⟨_, rfl⟩
   have HG := hid ((getd s k hks).trans hc)
   have HRI : Hid (refI s.data.toList k = (good c && !(isC 58 c && (decide (k + 1 = n) || isC 32 (s.data.toList.getD (k + 1) 0))) && !(isC 35 c && decide (0 < k) && isC 32 (s.data.toList.getD (k - 1) 0)))) := hid (by
    unfold refI; rw [HG.out, HLEN.out])
   have HKL : Hid (k < s.data.toList.length) := hid (by rw [HLEN.out]; exact hlt)
   have wk : IntKind.i64.wrap ((k : Int) - 1) = (k : Int) - 1 := IntWalk.i64_in _ (by omega)
   rcases Bool.eq_false_or_eq_true (good c) with hg | hg
   ·have HP := hid hg
    rw [hg] at HRI
    clear hg
    by_cases h58 : isC 58 c = true
    ·have m58 : ((c.toNat : Int) == 58) = true := (isC_beq 58 c 58 rfl).trans h58
     have h35 := isC_ne h58 (show (58 : UInt8) ≠ 35 by decide)
     have m35 : ((c.toNat : Int) == 35) = false := (isC_beq 35 c 35 rfl).trans h35
     rw [h58, h35] at HRI
     by_cases hla : k + 1 = n
     ·have ek : ((k : Int) == (n : Int) - 1) = true := beq_iff_eq.2 (by omega)
      have ek' : (k : Int) = (n : Int) - 1 := by omega
      have HX : Hid (refI s.data.toList k = false) := hid (by rw [HRI.out, decide_eq_true hla]; rfl)
      clear h58 h35 hla ek'
      go_wp2_with (go_at_call 47; refine (Good_q c true _ HP.out).mono ?_; rintro e w' ⟨rfl, rfl⟩)
      go_ret
      exact ⟨ret_b (HNO.out k HKL.out HX.out).symm, rfl⟩
     ·have ek : ((k : Int) == (n : Int) - 1) = false := beq_eq_false_iff_ne.2 (by omega)
      have ek' : ¬ (k : Int) = (n : Int) - 1 := by omega
      have hk1 : k + 1 < s.size := by omega
      have hk1z : (k : Int) + 1 < (n : Int) := by omega
      obtain ⟨d, hd⟩ : ∃ d, s[k + 1]'hk1 = d := ⟨_, rfl⟩
      rw [decide_eq_false hla, (getd s (k + 1) hk1).trans hd] at HRI
      clear hla
      rcases Bool.eq_false_or_eq_true (isC 32 d) with h32 | h32
      ·have m32 : ((d.toNat : Int) == 32) = true := (isC_beq 32 d 32 rfl).trans h32
       have HX : Hid (refI s.data.toList k = false) := hid (by rw [HRI.out, h32]; rfl)
       clear h58 h35 h32
       go_wp2_with (go_at_call 47; refine (Good_q c true _ HP.out).mono ?_; rintro e w' ⟨rfl, rfl⟩)
       go_ret
       exact ⟨ret_b (HNO.out k HKL.out HX.out).symm, rfl⟩
      ·have m32 : ((d.toNat : Int) == 32) = false := (isC_beq 32 d 32 rfl).trans h32
       have HX : Hid (refI s.data.toList k = true) := hid (by rw [HRI.out, h32]; rfl)
       clear h58 h35 h32
       go_wp2_with (go_at_call 47; refine (Good_q c true _ HP.out).mono ?_; rintro e w' ⟨rfl, rfl⟩)
       go_round
       case rel =>
        refine ⟨k + 1, by omega, by go_num, fun j hjk => ?_⟩
        rcases Nat.lt_succ_iff_lt_or_eq.1 hjk with h | h
        ·exact HA.out j h
        ·subst h; exact HX.out
       case measure => simp [intOf]; omega
    ·have h58 := Bool.eq_false_iff.2 h58
     have m58 : ((c.toNat : Int) == 58) = false := (isC_beq 58 c 58 rfl).trans h58
     rw [h58] at HRI
     by_cases h35 : isC 35 c = true
     ·have m35 : ((c.toNat : Int) == 35) = true := (isC_beq 35 c 35 rfl).trans h35
      rw [h35] at HRI
      by_cases hk0 : 0 < k
      ·have hk0z : (0 : Int) < (k : Int) := by omega
       have hk0y : (1 : Int) ≤ (k : Int) := by omega
       have pk : 0 ≤ (k : Int) - 1 := by omega
       have tk : ((k : Int) - 1).toNat = k - 1 := by omega
       have lk : (k : Int) - 1 < (n : Int) := by omega
       have hkm : k - 1 < s.size := by omega
       obtain ⟨d, hd⟩ : ∃ d, s[k - 1]'hkm = d := ⟨_, rfl⟩
       rw [decide_eq_true hk0, (getd s (k - 1) hkm).trans hd] at HRI
       rcases Bool.eq_false_or_eq_true (isC 32 d) with h32 | h32
       ·have m32 : ((d.toNat : Int) == 32) = true := (isC_beq 32 d 32 rfl).trans h32
        have HX : Hid (refI s.data.toList k = false) := hid (by rw [HRI.out, h32]; rfl)
        clear h58 h35 h32
        go_wp2_with (go_at_call 47; refine (Good_q c true _ HP.out).mono ?_; rintro e w' ⟨rfl, rfl⟩)
        go_ret
        exact ⟨ret_b (HNO.out k HKL.out HX.out).symm, rfl⟩
       ·have m32 : ((d.toNat : Int) == 32) = false := (isC_beq 32 d 32 rfl).trans h32
        have HX : Hid (refI s.data.toList k = true) := hid (by rw [HRI.out, h32]; rfl)
        clear h58 h35 h32
        go_wp2_with (go_at_call 47; refine (Good_q c true _ HP.out).mono ?_; rintro e w' ⟨rfl, rfl⟩)
        go_round
        case rel =>
         refine ⟨k + 1, by omega, by go_num, fun j hjk => ?_⟩
         rcases Nat.lt_succ_iff_lt_or_eq.1 hjk with h | h
         ·exact HA.out j h
         ·subst h; exact HX.out
        case measure => simp [intOf]; omega
      ·have HX : Hid (refI s.data.toList k = true) := hid (by rw [HRI.out, decide_eq_false hk0]; rfl)
       have hk0z : ¬ (0 : Int) < (k : Int) := by omega
       clear h58 h35 wk
       go_wp2_with (go_at_call 47; refine (Good_q c true _ HP.out).mono ?_; rintro e w' ⟨rfl, rfl⟩)
       go_round
       case rel =>
        refine ⟨k + 1, by omega, by go_num, fun j hjk => ?_⟩
        rcases Nat.lt_succ_iff_lt_or_eq.1 hjk with h | h
        ·exact HA.out j h
        ·subst h; exact HX.out
       case measure => simp [intOf]; omega
     ·have h35 := Bool.eq_false_iff.2 h35
      have m35 : ((c.toNat : Int) == 35) = false := (isC_beq 35 c 35 rfl).trans h35
      have HX : Hid (refI s.data.toList k = true) := hid (by rw [HRI.out, h35]; rfl)
      clear h58 h35
      go_wp2_with (go_at_call 47; refine (Good_q c true _ HP.out).mono ?_; rintro e w' ⟨rfl, rfl⟩)
      go_round
      case rel =>
       refine ⟨k + 1, by omega, by go_num, fun j hjk => ?_⟩
       rcases Nat.lt_succ_iff_lt_or_eq.1 hjk with h | h
       ·exact HA.out j h
       ·subst h; exact HX.out
      case measure => simp [intOf]; omega
   ·have HP := hid hg
    have HX : Hid (refI s.data.toList k = false) := hid (by rw [HRI.out, hg]; rfl)
    clear hg
    go_wp2_with (go_at_call 47; refine (Good_q c false _ HP.out).mono ?_; rintro e w' ⟨rfl, rfl⟩)
    go_ret
    exact ⟨ret_b (HNO.out k HKL.out HX.out).symm, rfl⟩
  ·go_wp2
   go_ret
   exact ⟨ret_b (HYES.out (fun j hj => HA.out j (by rw [HLEN.out] at hj; omega))).symm, rfl⟩
theorem RPlain_any (s : ByteArray) (w : World) (hs : s.size ≤ 1000000) :
  Calls Tryz.prog 27 #[.string s] w fun e w' => e = .returned (.bool (plainB s.data.toList)) ∧ w = w' := by
 by_cases h0 : s.data.toList = []
 ·obtain rfl := bytes_of (l := #[]) h0
  have H : Hid (plainB (⟨#[]⟩ : ByteArray).data.toList = false) := hid rfl
  clear h0
  go_enter Tryz.func27, Tryz.ntmps27
  go_wp2
  go_ret
  exact ⟨ret_b H.out.symm, rfl⟩
 by_cases h1 : s.data.toList = [126]
 ·obtain rfl := bytes_of (l := #[126]) h1
  have H : Hid (plainB (⟨#[126]⟩ : ByteArray).data.toList = false) := hid rfl
  clear h0 h1
  go_enter Tryz.func27, Tryz.ntmps27
  go_wp2
  go_ret
  exact ⟨ret_b H.out.symm, rfl⟩
 by_cases h2 : s.data.toList = [110, 117, 108, 108]
 ·obtain rfl := bytes_of (l := #[110, 117, 108, 108]) h2
  have H : Hid (plainB (⟨#[110, 117, 108, 108]⟩ : ByteArray).data.toList = false) := hid rfl
  clear h0 h1 h2
  go_enter Tryz.func27, Tryz.ntmps27
  go_wp2
  go_ret
  exact ⟨ret_b H.out.symm, rfl⟩
 have b0 : s.toList.isEmpty = false := by rw [ByteArray.toList_eq, List.isEmpty_eq_false_iff]; exact h0
 have b0' : ¬ s.toList = [] := by rw [ByteArray.toList_eq]; exact h0
 have b1 : (s.toList == [126]) = false := by rw [ByteArray.toList_eq]; exact beq_eq_false_iff_ne.2 h1
 have b2 : (s.toList == [110, 117, 108, 108]) = false := by rw [ByteArray.toList_eq]; exact beq_eq_false_iff_ne.2 h2
 have hp : 0 < s.size := by rw [← len_eq]; exact List.length_pos_iff.2 h0
 have h3 : bad3 s.data.toList = false := by unfold bad3; rw [decide_eq_false h0, decide_eq_false h1, decide_eq_false h2]; rfl
 have hl : s.size - 1 < s.size := by omega
 have g0 := getd s 0 hp
 have gl := getd s (s.size - 1) hl
 have NO : ∀ {P : Prop}, refH s.data.toList = false → plainB s.data.toList = false := fun h => plain_ne h0 (.inl h)
 rcases Bool.eq_false_or_eq_true (isC 32 s[0]) with e0 | e0
 ·rw [NO (P := True) (refH_no (.inl (by rw [g0]; exact e0)))]
  exact rp_begin s w _ rfl hs b0 b0' b1 b2 hp _ rfl ((isC_beq 32 _ 32 rfl).trans e0)
 rcases Bool.eq_false_or_eq_true (isC 32 (s[s.size - 1]'hl)) with el | el
 ·rw [NO (P := True) (refH_no (.inr (.inl (by rw [len_eq, gl]; exact el))))]
  exact rp_last s w _ rfl hs b0 b0' b1 b2 hp _ rfl ((isC_beq 32 _ 32 rfl).trans e0) _ hl rfl ((isC_beq 32 _ 32 rfl).trans el)
 rcases Bool.eq_false_or_eq_true (has firsts s[0]) with ef | ef
 ·rw [NO (P := True) (refH_no (.inr (.inr (.inl (by rw [g0]; exact ef)))))]
  exact rp_first s w _ rfl hs b0 b0' b1 b2 hp _ rfl ((isC_beq 32 _ 32 rfl).trans e0) _ hl rfl ((isC_beq 32 _ 32 rfl).trans el) (hid ef)
 have HNO : Hid (∀ k, k < s.data.toList.length → refI s.data.toList k = false → plainB s.data.toList = false) := hid (fun k hk h => plain_ne h0 (.inr ⟨k, hk, h⟩))
 rcases Bool.eq_false_or_eq_true (isC 45 s[0]) with e45 | e45
 ·by_cases e1 : s.size = 1
  ·rw [NO (P := True) (refH_no (.inr (.inr (.inr ⟨by rw [g0]; exact e45, .inl (by rw [len_eq]; exact e1)⟩))))]
   exact rp_one s w _ rfl hs b0 b0' b1 b2 hp _ rfl ((isC_beq 32 _ 32 rfl).trans e0) _ hl rfl ((isC_beq 32 _ 32 rfl).trans el) (hid ef) ((isC_beq 45 _ 45 rfl).trans e45) (beq_iff_eq.2 (by omega))
  ·have i1 : 1 < s.size := by omega
   have g1 := getd s 1 i1
   rcases Bool.eq_false_or_eq_true (isC 32 s[1]) with e2 | e2
   ·rw [NO (P := True) (refH_no (.inr (.inr (.inr ⟨by rw [g0]; exact e45, .inr (by rw [g1]; exact e2)⟩))))]
    exact rp_space s w _ rfl hs b0 b0' b1 b2 hp _ rfl ((isC_beq 32 _ 32 rfl).trans e0) _ hl rfl ((isC_beq 32 _ 32 rfl).trans el) (hid ef) ((isC_beq 45 _ 45 rfl).trans e45) (beq_eq_false_iff_ne.2 (by omega)) i1 (by omega) _ rfl ((isC_beq 32 _ 32 rfl).trans e2)
   ·have hH : refH s.data.toList = true := refH_yes (by rw [g0]; exact e0) (by rw [len_eq, gl]; exact el) (by rw [g0]; exact ef) (.inr ⟨by rw [len_eq]; exact e1, by rw [g1]; exact e2⟩)
    exact rp_loop45 s w _ rfl hs b0 b0' b1 b2 hp _ rfl ((isC_beq 32 _ 32 rfl).trans e0) _ hl rfl ((isC_beq 32 _ 32 rfl).trans el) (hid ef) ((isC_beq 45 _ 45 rfl).trans e45) (beq_eq_false_iff_ne.2 (by omega)) i1 (by omega) _ rfl ((isC_beq 32 _ 32 rfl).trans e2) _ (hid (fun h => plain_eq h3 hH h)) HNO
 ·have hH : refH s.data.toList = true := refH_yes (by rw [g0]; exact e0) (by rw [len_eq, gl]; exact el) (by rw [g0]; exact ef) (.inl (by rw [g0]; exact e45))
  exact rp_loop s w _ rfl hs b0 b0' b1 b2 hp _ rfl ((isC_beq 32 _ 32 rfl).trans e0) _ hl rfl ((isC_beq 32 _ 32 rfl).trans el) (hid ef) ((isC_beq 45 _ 45 rfl).trans e45) _ (hid (fun h => plain_eq h3 hH h)) HNO
theorem RPlain_q (s : ByteArray) (b : Bool) (w : World) (hs : s.size ≤ 1000000) (h : plainB s.data.toList = b) :
  Calls Tryz.prog 27 #[.string s] w fun e w' => e = .returned (.bool b) ∧ w = w' := by
 subst h; exact RPlain_any s w hs
end
end Go.Proofs.YtmdgpejedbkkdaaGreatDoor
