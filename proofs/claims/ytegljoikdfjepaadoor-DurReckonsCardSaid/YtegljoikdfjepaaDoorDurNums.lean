/- The contracts of dur.Least, Most, Add, Times and of the document's own Near, Times. -/
import Derived.Test.YtegljoikdfjepaaDoorDigSmall
import Derived.ChangeAlike
import Derived.Laws.Runes
namespace Go.Proofs.YtegljoikdfjepaaDoor
open Go.RowKit
open Dg
set_option linter.unusedVariables false
def leastI (a b : Int) : Int := if b < a then b else a
def mostI (a b : Int) : Int := if b < a then a else b
def nearI (n : Int) : Int := if n < 0 then 0 else if 1099511627776 < n then 1099511627776 else n
def timesI (a n : Int) : Int := if nearI a = 0 then 0 else if 1099511627776 / nearI a < nearI n then 1099511627776 else nearI a * nearI n
theorem nearI_bd (n : Int) : 0 ≤ nearI n ∧ nearI n ≤ 1099511627776 := by unfold nearI; split <;> (try split) <;> omega

set_option maxHeartbeats 1000000 in
theorem limited_any (n : Int) (w : World) (h1 : -9223372036854775808 ≤ n) (h2 : n ≤ 9223372036854775807) :
    Calls Tryd.prog 25 #[.int .i64 n] w fun e w' => e = .returned (.int .i64 (nearI n)) ∧ w = w' := by
  by_cases hneg : n < 0
  · have H : Hid (nearI n = 0) := Lib.hid (if_pos hneg)
    go_enter Tryd.func25, Tryd.ntmps25
    go_wp2
    all_goals (go_ret; exact ⟨ret_int (by have hh := H.out; omega), rfl⟩)
  · by_cases hbig : 1099511627776 < n
    · have H : Hid (nearI n = 1099511627776) := Lib.hid (by unfold nearI; rw [if_neg hneg, if_pos hbig])
      go_enter Tryd.func25, Tryd.ntmps25
      go_wp2
      all_goals (go_ret; exact ⟨ret_int (by have hh := H.out; omega), rfl⟩)
    · have H : Hid (nearI n = n) := Lib.hid (by unfold nearI; rw [if_neg hneg, if_neg hbig])
      go_enter Tryd.func25, Tryd.ntmps25
      go_wp2
      all_goals (go_ret; exact ⟨ret_int (by have hh := H.out; omega), rfl⟩)

set_option maxHeartbeats 1000000 in
theorem Least_any (a b : Int) (w : World) (h1 : -9223372036854775808 ≤ a) (h2 : a ≤ 9223372036854775807) (h3 : -9223372036854775808 ≤ b) (h4 : b ≤ 9223372036854775807) :
    Calls Tryd.prog 11 #[.int .i64 a, .int .i64 b] w fun e w' => e = .returned (.int .i64 (leastI a b)) ∧ w = w' := by
  by_cases h : b < a
  · have H : Hid (leastI a b = b) := Lib.hid (if_pos h)
    go_enter Tryd.func11, Tryd.ntmps11
    go_wp2
    all_goals (go_ret; exact ⟨ret_int (by have hh := H.out; omega), rfl⟩)
  · have H : Hid (leastI a b = a) := Lib.hid (if_neg h)
    go_enter Tryd.func11, Tryd.ntmps11
    go_wp2
    all_goals (go_ret; exact ⟨ret_int (by have hh := H.out; omega), rfl⟩)

set_option maxHeartbeats 1000000 in
theorem Most_any (a b : Int) (w : World) (h1 : -9223372036854775808 ≤ a) (h2 : a ≤ 9223372036854775807) (h3 : -9223372036854775808 ≤ b) (h4 : b ≤ 9223372036854775807) :
    Calls Tryd.prog 12 #[.int .i64 a, .int .i64 b] w fun e w' => e = .returned (.int .i64 (mostI a b)) ∧ w = w' := by
  by_cases h : b < a
  · have H : Hid (mostI a b = a) := Lib.hid (if_pos h)
    go_enter Tryd.func12, Tryd.ntmps12
    go_wp2
    all_goals (go_ret; exact ⟨ret_int (by have hh := H.out; omega), rfl⟩)
  · have H : Hid (mostI a b = b) := Lib.hid (if_neg h)
    go_enter Tryd.func12, Tryd.ntmps12
    go_wp2
    all_goals (go_ret; exact ⟨ret_int (by have hh := H.out; omega), rfl⟩)

set_option maxHeartbeats 1000000 in
theorem Near_any (n : Int) (w : World) (h1 : -9223372036854775808 ≤ n) (h2 : n ≤ 9223372036854775807) :
    Calls Tryd.prog 14 #[.int .i64 n] w fun e w' => e = .returned (.int .i64 (nearI n)) ∧ w = w' := by
  by_cases hneg : n < 0
  · have H : Hid (nearI n = 0) := Lib.hid (if_pos hneg)
    go_enter Tryd.func14, Tryd.ntmps14
    go_wp2
    all_goals (go_ret; exact ⟨ret_int (by have hh := H.out; omega), rfl⟩)
  · by_cases hbig : 1099511627776 < n
    · have H : Hid (nearI n = 1099511627776) := Lib.hid (by unfold nearI; rw [if_neg hneg, if_pos hbig])
      go_enter Tryd.func14, Tryd.ntmps14
      go_wp2
      all_goals (go_ret; exact ⟨ret_int (by have hh := H.out; omega), rfl⟩)
    · have H : Hid (nearI n = n) := Lib.hid (by unfold nearI; rw [if_neg hneg, if_neg hbig])
      go_enter Tryd.func14, Tryd.ntmps14
      go_wp2
      all_goals (go_ret; exact ⟨ret_int (by have hh := H.out; omega), rfl⟩)

theorem limited_q (x n r : Int) (w : World) (hx : x = n) (h1 : -9223372036854775808 ≤ n) (h2 : n ≤ 9223372036854775807) (hr : nearI n = r) :
    Calls Tryd.prog 25 #[.int .i64 x] w fun e w' => e = .returned (.int .i64 r) ∧ w = w' := by
  subst hx; subst hr; exact limited_any x w h1 h2
theorem Near_q (x n r : Int) (w : World) (hx : x = n) (h1 : -9223372036854775808 ≤ n) (h2 : n ≤ 9223372036854775807) (hr : nearI n = r) :
    Calls Tryd.prog 14 #[.int .i64 x] w fun e w' => e = .returned (.int .i64 r) ∧ w = w' := by
  subst hx; subst hr; exact Near_any x w h1 h2

set_option maxHeartbeats 1000000 in
theorem Add_any (a b : Int) (w : World) (h1 : -9223372036854775808 ≤ a) (h2 : a ≤ 9223372036854775807) (h3 : -9223372036854775808 ≤ b) (h4 : b ≤ 9223372036854775807) :
    Calls Tryd.prog 13 #[.int .i64 a, .int .i64 b] w fun e w' => e = .returned (.int .i64 (nearI (nearI a + nearI b))) ∧ w = w' := by
  obtain ⟨x, hx⟩ : ∃ x, nearI a = x := ⟨_, rfl⟩
  obtain ⟨y, hy⟩ : ∃ y, nearI b = y := ⟨_, rfl⟩
  obtain ⟨z, hz⟩ : ∃ z, nearI (x + y) = z := ⟨_, rfl⟩
  have bx := nearI_bd a
  have byd := nearI_bd b
  rw [hx] at bx
  rw [hy] at byd
  obtain ⟨x0, x1⟩ := bx
  obtain ⟨y0, y1⟩ := byd
  rw [hx, hy, hz]
  have HX := Lib.hid hx
  have HY := Lib.hid hy
  have HZ := Lib.hid hz
  clear hx hy hz
  go_enter Tryd.func13, Tryd.ntmps13
  go_wp2_with fail
  refine (limited_q _ a x _ rfl h1 h2 HX.out).mono ?_
  rintro e w1 ⟨rfl, rfl⟩
  go_wp2_with fail
  refine (limited_q _ b y _ rfl h3 h4 HY.out).mono ?_
  rintro e w1 ⟨rfl, rfl⟩
  go_wp2_with fail
  refine (limited_q _ (x + y) z _ rfl (by omega) (by omega) HZ.out).mono ?_
  rintro e w1 ⟨rfl, rfl⟩
  go_wp2
  go_ret
  exact ⟨rfl, rfl⟩

theorem times_0 {a n : Int} (h : nearI a = 0) : timesI a n = 0 := if_pos h
theorem times_big {a n : Int} (h : nearI a ≠ 0) (h2 : 1099511627776 / nearI a < nearI n) : timesI a n = 1099511627776 := by unfold timesI; rw [if_neg h, if_pos h2]
theorem times_ok {a n : Int} (h : nearI a ≠ 0) (h2 : ¬ 1099511627776 / nearI a < nearI n) : timesI a n = nearI a * nearI n := by unfold timesI; rw [if_neg h, if_neg h2]
theorem prod_bd {x y : Int} (hx : 0 < x) (hy : 0 ≤ y) (h : ¬ 1099511627776 / x < y) : 0 ≤ x * y ∧ x * y ≤ 1099511627776 := by
  refine ⟨Int.mul_nonneg (by omega) hy, ?_⟩
  have h1 : y ≤ 1099511627776 / x := by omega
  have := (Int.le_ediv_iff_mul_le hx).1 h1
  rw [Int.mul_comm]; exact this

set_option maxHeartbeats 1000000 in
theorem Times_any (a n : Int) (w : World) (h1 : -9223372036854775808 ≤ a) (h2 : a ≤ 9223372036854775807) (h3 : -9223372036854775808 ≤ n) (h4 : n ≤ 9223372036854775807) :
    Calls Tryd.prog 15 #[.int .i64 a, .int .i64 n] w fun e w' => e = .returned (.int .i64 (timesI a n)) ∧ w = w' := by
  have bx := nearI_bd a
  have byd := nearI_bd n
  have T0 := times_0 (a := a) (n := n)
  have T1 := times_big (a := a) (n := n)
  have T2 := times_ok (a := a) (n := n)
  obtain ⟨z, hz⟩ : ∃ z, timesI a n = z := ⟨_, rfl⟩
  rw [hz] at T0 T1 T2 ⊢
  obtain ⟨x, hx⟩ : ∃ x, nearI a = x := ⟨_, rfl⟩
  obtain ⟨y, hy⟩ : ∃ y, nearI n = y := ⟨_, rfl⟩
  rw [hx] at bx T0 T1 T2
  rw [hy] at byd T1 T2
  obtain ⟨x0, x1⟩ := bx
  obtain ⟨y0, y1⟩ := byd
  have HX := Lib.hid hx
  have HY := Lib.hid hy
  clear hx hy hz
  by_cases h0 : x = 0
  · have hz := Lib.hid (T0 h0)
    subst h0
    clear T0 T1 T2
    go_enter Tryd.func15, Tryd.ntmps15
    go_wp2_with fail
    refine (limited_q _ a 0 _ rfl h1 h2 HX.out).mono ?_
    rintro e w1 ⟨rfl, rfl⟩
    go_wp2_with fail
    refine (limited_q _ n y _ rfl h3 h4 HY.out).mono ?_
    rintro e w1 ⟨rfl, rfl⟩
    go_wp2
    go_ret
    exact ⟨ret_int (by have hh := hz.out; omega), rfl⟩
  · have hxp : 0 < x := by omega
    by_cases hb : 1099511627776 / x < y
    · have hz := Lib.hid (T1 h0 hb)
      clear T0 T1 T2
      go_enter Tryd.func15, Tryd.ntmps15
      go_wp2_with fail
      refine (limited_q _ a x _ rfl h1 h2 HX.out).mono ?_
      rintro e w1 ⟨rfl, rfl⟩
      go_wp2_with fail
      refine (limited_q _ n y _ rfl h3 h4 HY.out).mono ?_
      rintro e w1 ⟨rfl, rfl⟩
      go_wp2
      go_ret
      exact ⟨ret_int hz.out.symm, rfl⟩
    · have hz := Lib.hid (T2 h0 hb)
      obtain ⟨p0, p1⟩ := prod_bd hxp y0 hb
      have hwr : IntKind.i64.wrap (x * y) = x * y := wrap_small _ p0 (by omega)
      clear T0 T1 T2
      go_enter Tryd.func15, Tryd.ntmps15
      go_wp2_with fail
      refine (limited_q _ a x _ rfl h1 h2 HX.out).mono ?_
      rintro e w1 ⟨rfl, rfl⟩
      go_wp2_with fail
      refine (limited_q _ n y _ rfl h3 h4 HY.out).mono ?_
      rintro e w1 ⟨rfl, rfl⟩
      go_wp2
      go_ret
      exact ⟨ret_int hz.out.symm, rfl⟩

set_option maxHeartbeats 1000000 in
theorem RTimes_any (a n : Int) (w : World) (h1 : -9223372036854775808 ≤ a) (h2 : a ≤ 9223372036854775807) (h3 : -9223372036854775808 ≤ n) (h4 : n ≤ 9223372036854775807) :
    Calls Tryd.prog 16 #[.int .i64 a, .int .i64 n] w fun e w' => e = .returned (.int .i64 (timesI a n)) ∧ w = w' := by
  have bx := nearI_bd a
  have byd := nearI_bd n
  have T0 := times_0 (a := a) (n := n)
  have T1 := times_big (a := a) (n := n)
  have T2 := times_ok (a := a) (n := n)
  obtain ⟨z, hz⟩ : ∃ z, timesI a n = z := ⟨_, rfl⟩
  rw [hz] at T0 T1 T2 ⊢
  obtain ⟨x, hx⟩ : ∃ x, nearI a = x := ⟨_, rfl⟩
  obtain ⟨y, hy⟩ : ∃ y, nearI n = y := ⟨_, rfl⟩
  rw [hx] at bx T0 T1 T2
  rw [hy] at byd T1 T2
  obtain ⟨x0, x1⟩ := bx
  obtain ⟨y0, y1⟩ := byd
  have HX := Lib.hid hx
  have HY := Lib.hid hy
  clear hx hy hz
  by_cases h0 : x = 0
  · have hz := Lib.hid (T0 h0)
    subst h0
    clear T0 T1 T2
    go_enter Tryd.func16, Tryd.ntmps16
    go_wp2_with fail
    refine (Near_q _ a 0 _ rfl h1 h2 HX.out).mono ?_
    rintro e w1 ⟨rfl, rfl⟩
    go_wp2_with fail
    refine (Near_q _ n y _ rfl h3 h4 HY.out).mono ?_
    rintro e w1 ⟨rfl, rfl⟩
    go_wp2
    go_ret
    exact ⟨ret_int hz.out.symm, rfl⟩
  · have hxp : 0 < x := by omega
    have t1 : (x == 0) = false := beq_eq_false_iff_ne.2 h0
    by_cases hy0 : y = 0
    · have hz := Lib.hid (T2 h0 (by rw [hy0]; exact Int.not_lt.2 (Int.ediv_nonneg (by omega) (by omega))))
      subst hy0
      clear T0 T1 T2
      go_enter Tryd.func16, Tryd.ntmps16
      go_wp2_with fail
      refine (Near_q _ a x _ rfl h1 h2 HX.out).mono ?_
      rintro e w1 ⟨rfl, rfl⟩
      go_wp2_with fail
      refine (Near_q _ n 0 _ rfl h3 h4 HY.out).mono ?_
      rintro e w1 ⟨rfl, rfl⟩
      go_wp2
      go_ret
      exact ⟨ret_int (by rw [hz.out, Int.mul_zero]), rfl⟩
    · have t2 : (y == 0) = false := beq_eq_false_iff_ne.2 hy0
      by_cases hb : 1099511627776 / x < y
      · have hz := Lib.hid (T1 h0 hb)
        clear T0 T1 T2
        go_enter Tryd.func16, Tryd.ntmps16
        go_wp2_with fail
        refine (Near_q _ a x _ rfl h1 h2 HX.out).mono ?_
        rintro e w1 ⟨rfl, rfl⟩
        go_wp2_with fail
        refine (Near_q _ n y _ rfl h3 h4 HY.out).mono ?_
        rintro e w1 ⟨rfl, rfl⟩
        go_wp2
        go_ret
        exact ⟨ret_int hz.out.symm, rfl⟩
      · have hz := Lib.hid (T2 h0 hb)
        obtain ⟨p0, p1⟩ := prod_bd hxp y0 hb
        have hwr : IntKind.i64.wrap (x * y) = x * y := wrap_small _ p0 (by omega)
        clear T0 T1 T2
        go_enter Tryd.func16, Tryd.ntmps16
        go_wp2_with fail
        refine (Near_q _ a x _ rfl h1 h2 HX.out).mono ?_
        rintro e w1 ⟨rfl, rfl⟩
        go_wp2_with fail
        refine (Near_q _ n y _ rfl h3 h4 HY.out).mono ?_
        rintro e w1 ⟨rfl, rfl⟩
        go_wp2
        go_ret
        exact ⟨ret_int hz.out.symm, rfl⟩
end Go.Proofs.YtegljoikdfjepaaDoor
