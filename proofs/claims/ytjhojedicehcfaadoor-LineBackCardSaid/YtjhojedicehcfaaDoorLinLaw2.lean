/- LineCuts: Cut answers, for every line and every number, what the document's own answer says. -/
import Derived.Test.YtjhojedicehcfaaDoorLinCut
namespace Go.Proofs.YtjhojedicehcfaaDoor
open Go.RowKit Go.Sort
open Q6
set_option linter.unusedVariables false
set_option maxRecDepth 100000 in
set_option maxHeartbeats 4000000 in
theorem LineCuts_walk (no ind : Int) (t : ByteArray) (n : Int) (ht : t.size ≤ maxLen) (hi : (Lit.int .i64 ind).wf = true) (hn : (Lit.int .i64 n).wf = true) (w : World) (hw : SomeMax w) :
    Calls Tryd.prog 4 #[.agg #[.int .i64 no, .int .i64 ind, .string t], .int .i64 n] w fun e w' => e = .returned (.bool true) ∧ Below w.heap.size w w' := by
  have hx : -9223372036854775808 ≤ ind ∧ ind ≤ 9223372036854775807 := by simpa [Lit.wf, IntKind.min, IntKind.max, IntKind.signed, IntKind.bits] using hi
  have hx2 : -9223372036854775808 ≤ n ∧ n ≤ 9223372036854775807 := by simpa [Lit.wf, IntKind.min, IntKind.max, IntKind.signed, IntKind.bits] using hn
  obtain ⟨x1, x2⟩ := hx
  obtain ⟨x3, x4⟩ := hx2
  unfold maxLen at ht
  have HW := Lib.hid hw
  clear hi hn hw
  by_cases hbig : (3000 : Int) < (t.size : Int) ∨ ind < 0 ∨ (10000 : Int) < ind
  · have HA := Lib.hid (HW.out.keep ((Below.refl w.heap.size w).alloc (Nat.le_refl _) (.cells #[.int .i64 no, .int .i64 ind, .string t] 34)))
    by_cases b1 : (3000 : Int) < (t.size : Int)
    · clear hbig
      go_enter Tryd.func4, Tryd.ntmps4
      go_wp2_with (go_at_call 6; refine (awake_any _ HA.out).mono ?_; rintro e w5 ⟨rfl, hb5⟩)
      go_ret
      exact ⟨rfl, ((Below.refl _ _).alloc (Nat.le_refl _) _).trans (hb5.mono (by simp))⟩
    by_cases b2 : ind < 0
    · clear hbig
      go_enter Tryd.func4, Tryd.ntmps4
      go_wp2_with (go_at_call 6; refine (awake_any _ HA.out).mono ?_; rintro e w5 ⟨rfl, hb5⟩)
      go_ret
      exact ⟨rfl, ((Below.refl _ _).alloc (Nat.le_refl _) _).trans (hb5.mono (by simp))⟩
    · have b3 : (10000 : Int) < ind := by omega
      clear hbig
      go_enter Tryd.func4, Tryd.ntmps4
      go_wp2_with (go_at_call 6; refine (awake_any _ HA.out).mono ?_; rintro e w5 ⟨rfl, hb5⟩)
      go_ret
      exact ⟨rfl, ((Below.refl _ _).alloc (Nat.le_refl _) _).trans (hb5.mono (by simp))⟩
  · have b1 : ¬ (3000 : Int) < (t.size : Int) := by omega
    have b2 : ¬ ind < 0 := by omega
    have b3 : ¬ (10000 : Int) < ind := by omega
    have hs3 : t.size ≤ 3000 := by omega
    clear hbig
    have hres : ∃ (J : Int) (q : ByteArray), J + (q.size : Int) = ind + (t.size : Int) ∧ 0 ≤ J ∧ J ≤ 20000 ∧ q.size ≤ 3000 ∧
        (∀ w0, Calls Tryd.prog 11 #[.agg #[.int .i64 no, .int .i64 ind, .string t], .int .i64 n] w0 fun e w' => e = .returned (.agg #[.int .i64 no, .int .i64 J, .string q]) ∧ Below w0.heap.size w0 w') ∧
        (∀ w0, Calls Tryd.prog 12 #[.agg #[.int .i64 no, .int .i64 ind, .string t], .int .i64 n] w0 fun e w' => e = .returned (.agg #[.int .i64 no, .int .i64 J, .string q]) ∧ Below w0.heap.size w0 w') := by
      by_cases ho : n < 0 ∨ (t.size : Int) < n
      · exact ⟨ind, t, rfl, by omega, by omega, hs3, fun w0 => Cut_out no ind n t w0 (by omega) ho, fun w0 => RCut_out no ind n t w0 (by omega) ho⟩
      · obtain ⟨k, rfl⟩ : ∃ k : Nat, n = (k : Int) := ⟨n.toNat, by omega⟩
        have hk : k ≤ t.size := by omega
        have hmt : cutN t.data.toList k ≤ t.size := by rw [← len_eq]; exact cutN_le (by rw [len_eq]; exact hk)
        obtain ⟨q, hq⟩ : ∃ q : ByteArray, t.data.toList.drop (cutN t.data.toList k) = q.data.toList := ⟨⟨(t.data.toList.drop (cutN t.data.toList k)).toArray⟩, by simp⟩
        have hqs : q.size + cutN t.data.toList k = t.size := by
          have h1 : q.data.toList.length = q.size := len_eq q
          rw [← hq, List.length_drop, len_eq] at h1
          omega
        exact ⟨ind + (cutN t.data.toList k : Nat), q, by omega, by omega, by omega, by omega, fun w0 => Cut_in no ind k _ t q w0 hs3 (by omega) (by omega) hk rfl hq, fun w0 => RCut_in no ind k _ t q w0 hs3 (by omega) (by omega) hk rfl hq⟩
    obtain ⟨J, q, hsum, hJ0, hJ1, hq3, c1, c2⟩ := hres
    have C1 := Lib.hid c1
    have C2 := Lib.hid c2
    have e1 : IntKind.i64.wrap (J + (q.size : Int)) = J + (q.size : Int) := IntWalk.i64_in _ (by omega)
    have e2 : IntKind.i64.wrap (ind + (t.size : Int)) = ind + (t.size : Int) := IntWalk.i64_in _ (by omega)
    have e3 : (J + (q.size : Int) == ind + (t.size : Int)) = true := beq_iff_eq.2 hsum
    clear hsum c1 c2
    go_enter Tryd.func4, Tryd.ntmps4
    go_wp2_with fail
    refine (C1.out _).mono ?_
    rintro e w1 ⟨rfl, hb1⟩
    have r1 := (Row3.make w 34 (.int .i64 no) (.int .i64 ind) (.string t)).below hb1 (by simp)
    have HB1 := Lib.hid (((Below.refl w.heap.size w).alloc (Nat.le_refl _) _).trans (hb1.mono (by simp)))
    have R1 := Lib.hid r1
    have z1 := r1.lt
    have q1 := r1.alloc (.cells #[.int .i64 no, .int .i64 J, .string q] 34)
    obtain ⟨p0, p1, p2⟩ := q1.cells
    clear hb1 r1 q1
    go_wp2_with fail
    refine (C2.out _).mono ?_
    rintro e w2 ⟨rfl, hb2⟩
    have r1 := (R1.out.alloc (.cells #[.int .i64 no, .int .i64 J, .string q] 34)).below hb2 (by simp; omega)
    have r2 := (Row3.make w1 34 (.int .i64 no) (.int .i64 J) (.string q)).below hb2 (by simp)
    have z2 : w.heap.size < w2.heap.size := r1.lt
    have z3 : w1.heap.size < w2.heap.size := r2.lt
    have q1 := r1.alloc (.cells #[.int .i64 no, .int .i64 J, .string q] 36)
    have q2 := r2.alloc (.cells #[.int .i64 no, .int .i64 J, .string q] 36)
    have HB2 := Lib.hid (((HB1.out.alloc HB1.out.size _).trans (hb2.mono (by have := HB1.out.size; simp; omega))).alloc (by omega) (.cells #[.int .i64 no, .int .i64 J, .string q] 36))
    obtain ⟨a0, a1, a2⟩ := q1.cells
    obtain ⟨d0, d1, d2⟩ := q2.cells
    clear hb2 r1 r2 q1 q2 p0 p1 p2
    go_wp2_with fail
    refine (awake_any _ (HW.out.keep HB2.out)).mono ?_
    rintro e w5 ⟨rfl, hb5⟩
    have HB5 := Lib.hid (belowNext HB2.out hb5)
    clear hb5
    go_wp2
    go_ret
    exact ⟨rfl, HB5.out⟩
end Go.Proofs.YtjhojedicehcfaaDoor
