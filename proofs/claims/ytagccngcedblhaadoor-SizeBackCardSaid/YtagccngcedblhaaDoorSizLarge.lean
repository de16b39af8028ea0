/- The contracts of size.isAmount, largest, Unit and Text. -/
import Derived.Test.YtagccngcedblhaaDoorSizMath
import Derived.Test.YtagccngcedblhaaDoorSizLaid
import Derived.Test.YtagccngcedblhaaDoorDigText
import Derived.Test.YtagccngcedblhaaDoorDigSmall
import Derived.RegionTactic
import Derived.ChangeAlike
namespace Go.Proofs.YtagccngcedblhaaDoor
open Go.RowKit
open Dg
set_option linter.unusedVariables false
set_option maxHeartbeats 1000000 in
theorem isAmount_yes (m : Nat) (w : World) (hm : m ≤ 1125899906842624) :
    Calls Tryd.prog 19 #[.int .i64 (m : Int)] w fun e w' => e = .returned (.bool true) ∧ w = w' := by
  have h1 : (0 : Int) ≤ (m : Int) := by omega
  have h2 : (m : Int) ≤ 1125899906842624 := by omega
  go_enter Tryd.func19, Tryd.ntmps19
  go_wp2
  go_ret
  exact ⟨rfl, rfl⟩
set_option maxHeartbeats 1000000 in
theorem isAmount_no (n : Int) (w : World) (h : n < 0 ∨ 1125899906842624 < n) :
    Calls Tryd.prog 19 #[.int .i64 n] w fun e w' => e = .returned (.bool false) ∧ w = w' := by
  by_cases h1 : 0 ≤ n
  · have h2 : ¬ n ≤ 1125899906842624 := by omega
    clear h
    go_enter Tryd.func19, Tryd.ntmps19
    go_wp2
    go_ret
    exact ⟨rfl, rfl⟩
  · clear h
    go_enter Tryd.func19, Tryd.ntmps19
    go_wp2
    go_ret
    exact ⟨rfl, rfl⟩
set_option maxHeartbeats 4000000 in
theorem largest_any (m : Nat) (w : World) (hm : m ≤ 1125899906842624) :
    Calls Tryd.prog 20 #[.int .i64 (m : Int)] w fun e w' => e = .returned (.int .i64 (jz m : Int)) ∧ w = w' := by
  by_cases h0 : m = 0
  · subst h0
    go_enter Tryd.func20, Tryd.ntmps20
    go_wp2
    go_ret
    exact ⟨rfl, rfl⟩
  · have z0 : ((m : Int) == 0) = false := beq_eq_false_iff_ne.2 (by omega)
    rcases jz_cases m with ⟨hj, -, -, g⟩ | ⟨hj, -, -, g0, g1, g2⟩ | ⟨hj, -, -, g0, g1, g2⟩ | ⟨hj, -, -, g0, g1⟩
    · have HJ := Lib.hid hj
      have z1 : ((m : Int) % 1024 == 0) = false := beq_eq_false_iff_ne.2 (by omega)
      have z2 : ((m : Int) % 1048576 == 0) = false := beq_eq_false_iff_ne.2 (by omega)
      have z3 : ((m : Int) % 1073741824 == 0) = false := beq_eq_false_iff_ne.2 (by omega)
      clear hj h0 hm g
      go_enter Tryd.func20, Tryd.ntmps20
      go_wp2
      go_loop [3] (fun i => ∃ u : Nat, 0 ≤ u ∧ u ≤ 3 ∧ i = .int .i64 (u : Int)) (fun i => (intOf i).toNat)
      case atStart => exact ⟨3, by omega, by omega, rfl⟩
      case round =>
        obtain ⟨u, hu, hu3, rfl⟩ := hrel
        have hu' : u = 3 ∨ u = 2 ∨ u = 1 ∨ u = 0 := by omega
        rcases hu' with rfl | rfl | rfl | rfl
        · go_wp2
          go_round
          case rel => exact ⟨2, by omega, by omega, by go_num⟩
          case measure => simp [intOf]
        · go_wp2
          go_round
          case rel => exact ⟨1, by omega, by omega, by go_num⟩
          case measure => simp [intOf]
        · go_wp2
          go_round
          case rel => exact ⟨0, by omega, by omega, by go_num⟩
          case measure => simp [intOf]
        · go_wp2
          go_ret
          exact ⟨ret_int (by rw [HJ.out]; rfl), rfl⟩
    · have HJ := Lib.hid hj
      have z1 : ((m : Int) % 1024 == 0) = true := beq_iff_eq.2 (by omega)
      have z2 : ((m : Int) % 1048576 == 0) = false := beq_eq_false_iff_ne.2 (by omega)
      have z3 : ((m : Int) % 1073741824 == 0) = false := beq_eq_false_iff_ne.2 (by omega)
      clear hj h0 hm g0 g1 g2
      go_enter Tryd.func20, Tryd.ntmps20
      go_wp2
      go_loop [3] (fun i => ∃ u : Nat, 1 ≤ u ∧ u ≤ 3 ∧ i = .int .i64 (u : Int)) (fun i => (intOf i).toNat)
      case atStart => exact ⟨3, by omega, by omega, rfl⟩
      case round =>
        obtain ⟨u, hu, hu3, rfl⟩ := hrel
        have hu' : u = 3 ∨ u = 2 ∨ u = 1 := by omega
        rcases hu' with rfl | rfl | rfl
        · go_wp2
          go_round
          case rel => exact ⟨2, by omega, by omega, by go_num⟩
          case measure => simp [intOf]
        · go_wp2
          go_round
          case rel => exact ⟨1, by omega, by omega, by go_num⟩
          case measure => simp [intOf]
        · go_wp2
          go_ret
          exact ⟨ret_int (by rw [HJ.out]; rfl), rfl⟩
    · have HJ := Lib.hid hj
      have z1 : ((m : Int) % 1024 == 0) = true := beq_iff_eq.2 (by omega)
      have z2 : ((m : Int) % 1048576 == 0) = true := beq_iff_eq.2 (by omega)
      have z3 : ((m : Int) % 1073741824 == 0) = false := beq_eq_false_iff_ne.2 (by omega)
      clear hj h0 hm g0 g1 g2
      go_enter Tryd.func20, Tryd.ntmps20
      go_wp2
      go_loop [3] (fun i => ∃ u : Nat, 2 ≤ u ∧ u ≤ 3 ∧ i = .int .i64 (u : Int)) (fun i => (intOf i).toNat)
      case atStart => exact ⟨3, by omega, by omega, rfl⟩
      case round =>
        obtain ⟨u, hu, hu3, rfl⟩ := hrel
        have hu' : u = 3 ∨ u = 2 := by omega
        rcases hu' with rfl | rfl
        · go_wp2
          go_round
          case rel => exact ⟨2, by omega, by omega, by go_num⟩
          case measure => simp [intOf]
        · go_wp2
          go_ret
          exact ⟨ret_int (by rw [HJ.out]; rfl), rfl⟩
    · have HJ := Lib.hid hj
      have z1 : ((m : Int) % 1024 == 0) = true := beq_iff_eq.2 (by omega)
      have z2 : ((m : Int) % 1048576 == 0) = true := beq_iff_eq.2 (by omega)
      have z3 : ((m : Int) % 1073741824 == 0) = true := beq_iff_eq.2 (by omega)
      clear hj h0 hm g0 g1
      go_enter Tryd.func20, Tryd.ntmps20
      go_wp2
      go_loop [3] (fun i => ∃ u : Nat, 3 ≤ u ∧ u ≤ 3 ∧ i = .int .i64 (u : Int)) (fun i => (intOf i).toNat)
      case atStart => exact ⟨3, by omega, by omega, rfl⟩
      case round =>
        obtain ⟨u, hu, hu3, rfl⟩ := hrel
        have hu' : u = 3 := by omega
        subst hu'
        · go_wp2
          go_ret
          exact ⟨ret_int (by rw [HJ.out]; rfl), rfl⟩
theorem largest_q (m j : Nat) (w : World) (hm : m ≤ 1125899906842624) (hj : jz m = j) :
    Calls Tryd.prog 20 #[.int .i64 (m : Int)] w fun e w' => e = .returned (.int .i64 (j : Int)) ∧ w = w' := by
  subst hj; exact largest_any m w hm
set_option maxHeartbeats 2000000 in
theorem ZUnit_any (n : Int) (w : World) (h1 : -9223372036854775808 ≤ n) (h2 : n ≤ 9223372036854775807) :
    Calls Tryd.prog 11 #[.int .i64 n] w fun e w' => e = .returned (.int .i64 (zU n)) ∧ w = w' := by
  by_cases h : n < 0 ∨ 1125899906842624 < n
  · have HU := Lib.hid (zU_no h)
    have HN := Lib.hid h
    clear h
    go_enter Tryd.func11, Tryd.ntmps11
    go_wp2_with (go_at_call 19; refine (isAmount_no n _ HN.out).mono ?_; rintro e w1 ⟨rfl, rfl⟩)
    go_ret
    exact ⟨ret_int HU.out.symm, rfl⟩
  · obtain ⟨m, rfl⟩ : ∃ m : Nat, n = (m : Int) := ⟨n.toNat, by omega⟩
    have hm : m ≤ 1125899906842624 := by omega
    have HM := Lib.hid hm
    rcases jz_cases m with ⟨hj, hb, -, -⟩ | ⟨hj, hb, -, -⟩ | ⟨hj, hb, -, -⟩ | ⟨hj, hb, -, -⟩
    · have HU : Hid (zU (m : Int) = 1) := Lib.hid (by rw [zU_in hm, hb]; rfl)
      have HJ := Lib.hid hj
      clear hj hb h hm
      go_enter Tryd.func11, Tryd.ntmps11
      go_wp2_with (first | (go_at_call 19; refine (isAmount_yes m _ HM.out).mono ?_; rintro e w1 ⟨rfl, rfl⟩) | (go_at_call 20; refine (largest_q m 0 _ HM.out HJ.out).mono ?_; rintro e w1 ⟨rfl, rfl⟩))
      go_ret
      exact ⟨ret_int HU.out.symm, rfl⟩
    · have HU : Hid (zU (m : Int) = 1024) := Lib.hid (by rw [zU_in hm, hb]; rfl)
      have HJ := Lib.hid hj
      clear hj hb h hm
      go_enter Tryd.func11, Tryd.ntmps11
      go_wp2_with (first | (go_at_call 19; refine (isAmount_yes m _ HM.out).mono ?_; rintro e w1 ⟨rfl, rfl⟩) | (go_at_call 20; refine (largest_q m 1 _ HM.out HJ.out).mono ?_; rintro e w1 ⟨rfl, rfl⟩))
      go_ret
      exact ⟨ret_int HU.out.symm, rfl⟩
    · have HU : Hid (zU (m : Int) = 1048576) := Lib.hid (by rw [zU_in hm, hb]; rfl)
      have HJ := Lib.hid hj
      clear hj hb h hm
      go_enter Tryd.func11, Tryd.ntmps11
      go_wp2_with (first | (go_at_call 19; refine (isAmount_yes m _ HM.out).mono ?_; rintro e w1 ⟨rfl, rfl⟩) | (go_at_call 20; refine (largest_q m 2 _ HM.out HJ.out).mono ?_; rintro e w1 ⟨rfl, rfl⟩))
      go_ret
      exact ⟨ret_int HU.out.symm, rfl⟩
    · have HU : Hid (zU (m : Int) = 1073741824) := Lib.hid (by rw [zU_in hm, hb]; rfl)
      have HJ := Lib.hid hj
      clear hj hb h hm
      go_enter Tryd.func11, Tryd.ntmps11
      go_wp2_with (first | (go_at_call 19; refine (isAmount_yes m _ HM.out).mono ?_; rintro e w1 ⟨rfl, rfl⟩) | (go_at_call 20; refine (largest_q m 3 _ HM.out HJ.out).mono ?_; rintro e w1 ⟨rfl, rfl⟩))
      go_ret
      exact ⟨ret_int HU.out.symm, rfl⟩
end Go.Proofs.YtagccngcedblhaaDoor
