/- The contract of the document's own most. -/
import Derived.Test.YtefjdbgmakddjaaRefMul
namespace Go.Proofs.Ytefjdbgmakddjaa
open Go.RowKit
open Sh Ro
set_option linter.unusedVariables false
theorem bdrew {B : Nat} {a w : World} (h : Below B a w) (n : Nat) : Below B a (w.drewN n) := ⟨h.os, h.tape, h.output, h.size, h.block⟩
theorem dec_nat (a b : Nat) : decide ((a : Int) < (b : Int)) = decide (a < b) := decide_eq_decide.2 (by omega)
theorem most_4 {a0 a1 a2 a3 a4 b0 b1 b2 b3 b4 : Nat} (hx : (N5.mk a0 a1 a2 a3 a4).Ok) (hy : (N5.mk b0 b1 b2 b3 b4).Ok) (h : a4 ≠ b4) : decide (a4 < b4) = decide ((N5.mk a0 a1 a2 a3 a4).num ≤ (N5.mk b0 b1 b2 b3 b4).num) := by
  apply decide_eq_decide.2
  obtain ⟨x0, x1, x2, x3, x4⟩ := hx
  obtain ⟨y0, y1, y2, y3, y4⟩ := hy
  unfold N5.num
  dsimp only at *
  omega
theorem most_3 {a0 a1 a2 a3 a4 b0 b1 b2 b3 : Nat} (hx : (N5.mk a0 a1 a2 a3 a4).Ok) (hy : (N5.mk b0 b1 b2 b3 a4).Ok) (h : a3 ≠ b3) : decide (a3 < b3) = decide ((N5.mk a0 a1 a2 a3 a4).num ≤ (N5.mk b0 b1 b2 b3 a4).num) := by
  apply decide_eq_decide.2
  obtain ⟨x0, x1, x2, x3, x4⟩ := hx
  obtain ⟨y0, y1, y2, y3, y4⟩ := hy
  unfold N5.num
  dsimp only at *
  omega
theorem most_2 {a0 a1 a2 a3 a4 b0 b1 b2 : Nat} (hx : (N5.mk a0 a1 a2 a3 a4).Ok) (hy : (N5.mk b0 b1 b2 a3 a4).Ok) (h : a2 ≠ b2) : decide (a2 < b2) = decide ((N5.mk a0 a1 a2 a3 a4).num ≤ (N5.mk b0 b1 b2 a3 a4).num) := by
  apply decide_eq_decide.2
  obtain ⟨x0, x1, x2, x3, x4⟩ := hx
  obtain ⟨y0, y1, y2, y3, y4⟩ := hy
  unfold N5.num
  dsimp only at *
  omega
theorem most_1 {a0 a1 a2 a3 a4 b0 b1 : Nat} (hx : (N5.mk a0 a1 a2 a3 a4).Ok) (hy : (N5.mk b0 b1 a2 a3 a4).Ok) (h : a1 ≠ b1) : decide (a1 < b1) = decide ((N5.mk a0 a1 a2 a3 a4).num ≤ (N5.mk b0 b1 a2 a3 a4).num) := by
  apply decide_eq_decide.2
  obtain ⟨x0, x1, x2, x3, x4⟩ := hx
  obtain ⟨y0, y1, y2, y3, y4⟩ := hy
  unfold N5.num
  dsimp only at *
  omega
theorem most_0 {a0 a1 a2 a3 a4 b0 : Nat} (hx : (N5.mk a0 a1 a2 a3 a4).Ok) (hy : (N5.mk b0 a1 a2 a3 a4).Ok) (h : a0 ≠ b0) : decide (a0 < b0) = decide ((N5.mk a0 a1 a2 a3 a4).num ≤ (N5.mk b0 a1 a2 a3 a4).num) := by
  apply decide_eq_decide.2
  obtain ⟨x0, x1, x2, x3, x4⟩ := hx
  obtain ⟨y0, y1, y2, y3, y4⟩ := hy
  unfold N5.num
  dsimp only at *
  omega
set_option maxHeartbeats 4000000 in
theorem most_any (x y : N5) (w : World) (hx : x.Ok) (hy : y.Ok) :
    Calls Try.prog 25 #[.agg x.cells, .agg y.cells] w fun e w' => e = .returned (.bool (decide (x.num ≤ y.num))) ∧ Below w.heap.size w w' := by
  obtain ⟨a0, a1, a2, a3, a4⟩ := x
  obtain ⟨b0, b1, b2, b3, b4⟩ := y
  have HB := Lib.hid ((((Below.refl _ w).alloc (Nat.le_refl _) (.cells (N5.mk a0 a1 a2 a3 a4).cells 40)).alloc (by simp) (.cells (N5.mk b0 b1 b2 b3 b4).cells 40)))
  have HX := Lib.hid hx
  have HY := Lib.hid hy
  clear hx hy
  obtain ⟨r, hr⟩ : ∃ r, decide ((N5.mk a0 a1 a2 a3 a4).num ≤ (N5.mk b0 b1 b2 b3 b4).num) = r := ⟨_, rfl⟩
  rw [hr]
  have HR := Lib.hid hr
  clear hr
  rw [N5.mk_cells, N5.mk_cells]
  go_enter Try.func25, Try.ntmps25
  go_wp2
  refine wp_loop_rounds 6 ?_
  by_cases e4 : a4 = b4
  rotate_left
  · have HQ := Lib.hid (most_4 HX.out HY.out e4)
    have t4 : ((a4 : Int) == (b4 : Int)) = false := beq_f (by omega)
    clear e4
    rw [rounds_succ]
    go_wp2
    go_quiet (fail)
    go_wp2
    go_quiet (fail)
    go_wp2
    go_ret
    exact ⟨ret_b (by rw [← HR.out, ← HQ.out]), (by first | exact (bdrew HB.out _) | exact (bdrew (bdrew HB.out _) _) | exact (bdrew (bdrew (bdrew HB.out _) _) _) | exact (bdrew (bdrew (bdrew (bdrew HB.out _) _) _) _) | exact (bdrew (bdrew (bdrew (bdrew (bdrew HB.out _) _) _) _) _) | exact (bdrew (bdrew (bdrew (bdrew (bdrew (bdrew HB.out _) _) _) _) _) _) | exact (bdrew (bdrew (bdrew (bdrew (bdrew (bdrew (bdrew HB.out _) _) _) _) _) _) _))⟩
  subst e4
  rw [rounds_succ]
  go_wp2
  go_quiet (fail)
  go_wp2
  by_cases e3 : a3 = b3
  rotate_left
  · have HQ := Lib.hid (most_3 HX.out HY.out e3)
    have t3 : ((a3 : Int) == (b3 : Int)) = false := beq_f (by omega)
    clear e3
    rw [rounds_succ]
    go_wp2
    go_quiet (fail)
    go_wp2
    go_quiet (fail)
    go_wp2
    go_ret
    exact ⟨ret_b (by rw [← HR.out, ← HQ.out]), (by first | exact (bdrew HB.out _) | exact (bdrew (bdrew HB.out _) _) | exact (bdrew (bdrew (bdrew HB.out _) _) _) | exact (bdrew (bdrew (bdrew (bdrew HB.out _) _) _) _) | exact (bdrew (bdrew (bdrew (bdrew (bdrew HB.out _) _) _) _) _) | exact (bdrew (bdrew (bdrew (bdrew (bdrew (bdrew HB.out _) _) _) _) _) _) | exact (bdrew (bdrew (bdrew (bdrew (bdrew (bdrew (bdrew HB.out _) _) _) _) _) _) _))⟩
  subst e3
  rw [rounds_succ]
  go_wp2
  go_quiet (fail)
  go_wp2
  by_cases e2 : a2 = b2
  rotate_left
  · have HQ := Lib.hid (most_2 HX.out HY.out e2)
    have t2 : ((a2 : Int) == (b2 : Int)) = false := beq_f (by omega)
    clear e2
    rw [rounds_succ]
    go_wp2
    go_quiet (fail)
    go_wp2
    go_quiet (fail)
    go_wp2
    go_ret
    exact ⟨ret_b (by rw [← HR.out, ← HQ.out]), (by first | exact (bdrew HB.out _) | exact (bdrew (bdrew HB.out _) _) | exact (bdrew (bdrew (bdrew HB.out _) _) _) | exact (bdrew (bdrew (bdrew (bdrew HB.out _) _) _) _) | exact (bdrew (bdrew (bdrew (bdrew (bdrew HB.out _) _) _) _) _) | exact (bdrew (bdrew (bdrew (bdrew (bdrew (bdrew HB.out _) _) _) _) _) _) | exact (bdrew (bdrew (bdrew (bdrew (bdrew (bdrew (bdrew HB.out _) _) _) _) _) _) _))⟩
  subst e2
  rw [rounds_succ]
  go_wp2
  go_quiet (fail)
  go_wp2
  by_cases e1 : a1 = b1
  rotate_left
  · have HQ := Lib.hid (most_1 HX.out HY.out e1)
    have t1 : ((a1 : Int) == (b1 : Int)) = false := beq_f (by omega)
    clear e1
    rw [rounds_succ]
    go_wp2
    go_quiet (fail)
    go_wp2
    go_quiet (fail)
    go_wp2
    go_ret
    exact ⟨ret_b (by rw [← HR.out, ← HQ.out]), (by first | exact (bdrew HB.out _) | exact (bdrew (bdrew HB.out _) _) | exact (bdrew (bdrew (bdrew HB.out _) _) _) | exact (bdrew (bdrew (bdrew (bdrew HB.out _) _) _) _) | exact (bdrew (bdrew (bdrew (bdrew (bdrew HB.out _) _) _) _) _) | exact (bdrew (bdrew (bdrew (bdrew (bdrew (bdrew HB.out _) _) _) _) _) _) | exact (bdrew (bdrew (bdrew (bdrew (bdrew (bdrew (bdrew HB.out _) _) _) _) _) _) _))⟩
  subst e1
  rw [rounds_succ]
  go_wp2
  go_quiet (fail)
  go_wp2
  by_cases e0 : a0 = b0
  rotate_left
  · have HQ := Lib.hid (most_0 HX.out HY.out e0)
    have t0 : ((a0 : Int) == (b0 : Int)) = false := beq_f (by omega)
    clear e0
    rw [rounds_succ]
    go_wp2
    go_quiet (fail)
    go_wp2
    go_quiet (fail)
    go_wp2
    go_ret
    exact ⟨ret_b (by rw [← HR.out, ← HQ.out]), (by first | exact (bdrew HB.out _) | exact (bdrew (bdrew HB.out _) _) | exact (bdrew (bdrew (bdrew HB.out _) _) _) | exact (bdrew (bdrew (bdrew (bdrew HB.out _) _) _) _) | exact (bdrew (bdrew (bdrew (bdrew (bdrew HB.out _) _) _) _) _) | exact (bdrew (bdrew (bdrew (bdrew (bdrew (bdrew HB.out _) _) _) _) _) _) | exact (bdrew (bdrew (bdrew (bdrew (bdrew (bdrew (bdrew HB.out _) _) _) _) _) _) _))⟩
  subst e0
  rw [rounds_succ]
  go_wp2
  go_quiet (fail)
  go_wp2
  rw [rounds_succ]
  go_wp2
  go_ret
  exact ⟨ret_b (by rw [← HR.out]; exact (decide_eq_true (Nat.le_refl _)).symm), (by first | exact (bdrew HB.out _) | exact (bdrew (bdrew HB.out _) _) | exact (bdrew (bdrew (bdrew HB.out _) _) _) | exact (bdrew (bdrew (bdrew (bdrew HB.out _) _) _) _) | exact (bdrew (bdrew (bdrew (bdrew (bdrew HB.out _) _) _) _) _) | exact (bdrew (bdrew (bdrew (bdrew (bdrew (bdrew HB.out _) _) _) _) _) _) | exact (bdrew (bdrew (bdrew (bdrew (bdrew (bdrew (bdrew HB.out _) _) _) _) _) _) _))⟩
end Go.Proofs.Ytefjdbgmakddjaa
