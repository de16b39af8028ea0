/- The contract of the document's own Root. -/
import Derived.Test.YtefjdbgmakddjaaRefMost
namespace Go.Proofs.Ytefjdbgmakddjaa
open Go.RowKit
open Sh Ro
set_option linter.unusedVariables false
/-- The bit that is tried when j bits are left. -/
def bitN : Nat → Nat
  | 0 => 0
  | j + 1 => 2 ^ j
theorem bit_half (j : Nat) : bitN (j + 1) / 2 = bitN j := by
  cases j with
  | zero => rfl
  | succ j => show 2 ^ (j + 1) / 2 = 2 ^ j; rw [Nat.pow_succ]; omega
theorem want2 (p : Nat) (h : p ≤ 1000) : (N5.mk 0 0 (p * 65536 % 16777216) (p * 65536 / 16777216) 0).num = top 2 p ∧ (N5.mk 0 0 (p * 65536 % 16777216) (p * 65536 / 16777216) 0).Ok := by
  refine ⟨?_, ⟨show 0 < 16777216 by decide, show 0 < 16777216 by decide, Nat.mod_lt _ (by decide), ?_, show 0 < 16777216 by decide⟩⟩
  · unfold N5.num top; dsimp only; rw [if_neg (by decide)]; omega
  · dsimp only; omega
theorem want3 (p : Nat) (h : p ≤ 1000) : (N5.mk 0 0 0 0 p).num = top 3 p ∧ (N5.mk 0 0 0 0 p).Ok := by
  refine ⟨?_, ⟨show 0 < 16777216 by decide, show 0 < 16777216 by decide, show 0 < 16777216 by decide, show 0 < 16777216 by decide, by dsimp only; omega⟩⟩
  unfold N5.num top; dsimp only; rw [if_pos rfl]; omega
theorem one_num (y : Nat) (h : y < 281474976710656) : (N5.mk (y % 16777216) (y / 16777216) 0 0 0).num = y ∧ (N5.mk (y % 16777216) (y / 16777216) 0 0 0).Ok := by
  refine ⟨?_, ⟨Nat.mod_lt _ (by decide), by dsimp only; omega, show 0 < 16777216 by decide, show 0 < 16777216 by decide, show 0 < 16777216 by decide⟩⟩
  unfold N5.num; dsimp only; omega
theorem sq_lt {y : Nat} (h : y < 274877906944) : y * y < 1329227995784915872903807060280344576 := by
  have := Nat.mul_le_mul (Nat.le_of_lt h) (Nat.le_of_lt h)
  omega
theorem cu_lt {y : Nat} (h : y < 274877906944) : y * y * y < 1329227995784915872903807060280344576 := by
  have := Nat.mul_le_mul (Nat.mul_le_mul (Nat.le_of_lt h) (Nat.le_of_lt h)) (Nat.le_of_lt h)
  omega
theorem mul_q (x : N5) (n m : Nat) (w : World) (hx : x.Ok) (hn : x.num = n) (hm : m < 281474976710656) (hb : n * m < 1329227995784915872903807060280344576) :
    Calls Try.prog 24 #[.agg x.cells, .int .u64 (m : Int)] w fun e w' => (∃ y : N5, e = .returned (.agg y.cells) ∧ y.Ok ∧ y.num = n * m) ∧ Below w.heap.size w w' := by
  subst hn; exact mul_any x m w hx hm hb
theorem most_q (x y : N5) (a b : Nat) (w : World) (hx : x.Ok) (hy : y.Ok) (ha : x.num = a) (hb : y.num = b) :
    Calls Try.prog 25 #[.agg x.cells, .agg y.cells] w fun e w' => e = .returned (.bool (decide (a ≤ b))) ∧ Below w.heap.size w w' := by
  subst ha; subst hb; exact most_any x y w hx hy
set_option maxHeartbeats 4000000 in
theorem RRoot_2 (p : Nat) (w : World) (h1 : 1 ≤ p) (h2 : p ≤ 1000) :
    Calls Try.prog 11 #[.int .i64 (p : Int), .int .i64 2] w fun e w' => e = .returned (.int .u32 ((rootN 2 p % 4294967296 : Nat) : Int)) ∧ Below w.heap.size w w' := by
  have hp1 : ¬ (p : Int) < 1 := by omega
  have hp2 : ¬ (1000 : Int) < (p : Int) := by omega
  have hu : IntKind.u64.wrap (p : Int) = (p : Int) := wrap64u (by omega) (by omega)
  obtain ⟨z2, hz2⟩ : ∃ z, p * 65536 % 16777216 = z := ⟨_, rfl⟩
  obtain ⟨z3, hz3⟩ : ∃ z, p * 65536 / 16777216 = z := ⟨_, rfl⟩
  obtain ⟨W, hW⟩ : ∃ W : N5, W = ⟨0, 0, z2, z3, 0⟩ := ⟨_, rfl⟩
  have HW : Hid (W.num = top 2 p ∧ W.Ok) := Lib.hid (by rw [hW, ← hz2, ← hz3]; exact want2 p h2)
  obtain ⟨q, hq⟩ : ∃ q, p * 65536 = q := ⟨_, rfl⟩
  rw [hq] at hz2 hz3
  have c0 : (p : Int) * 65536 = (q : Int) := by omega
  have c00 : IntKind.u64.wrap (q : Int) = (q : Int) := wrap64u (by omega) (by omega)
  have c1 : (q : Int) % 16777216 = (z2 : Int) := by omega
  have c2 : (q : Int) / 16777216 = (z3 : Int) := by omega
  have c3 : (q : Int).tmod 16777216 = (z2 : Int) := by rw [Int.tmod_eq_emod_of_nonneg (by omega)]; omega
  have c4 : (q : Int).tdiv 16777216 = (z3 : Int) := by rw [Int.tdiv_eq_ediv_of_nonneg (by omega)]; omega
  have c5 : IntKind.u64.wrap (z3 : Int) = (z3 : Int) := wrap64u (by omega) (by omega)
  clear hz2 hz3 hq
  have HWc : Hid (W = ⟨0, 0, z2, z3, 0⟩) := Lib.hid hW
  clear hW
  obtain ⟨Z, hZ⟩ : ∃ Z, rootN 2 p = Z := ⟨_, rfl⟩
  rw [hZ]
  have HZ : Hid (rt 2 p 38 0 = Z) := Lib.hid hZ
  have HZb : Hid (Z < 274877906944) := Lib.hid (by
    rw [← hZ]
    apply Nat.lt_of_not_le; intro hc
    have a1 := pw_mono 2 hc
    have a2 := (rootN_is (k := 2) h2).1
    have a3 := pw_big2 (k := 2) h2
    omega)
  clear hZ
  have HC : Hid (∀ x : N5, (Try.prog.info? 40).map (·.size) = some x.cells.size) := Lib.hid fun x => info5
  go_enter Try.func11, Try.ntmps11
  go_wp2
  go_loopw [6, 7] (fun sx sb wr => ∃ x j : Nat, sx = .int .u64 (x : Int) ∧ sb = .int .u64 (bitN j : Int) ∧ x + 2 ^ j ≤ 274877906944 ∧ rt 2 p j x = Z ∧ wr.heap[w.heap.size]? = some (.cells W.cells 40 (0, 0)) ∧ Below w.heap.size w wr) (fun _ sb _ => (intOf sb).toNat)
  case atStart =>
    refine ⟨0, 38, rfl, rfl, by decide, HZ.out, ?_, (Below.refl _ w).alloc (Nat.le_refl _) _⟩
    rw [HWc.out]
    exact row_new w _
  case round =>
    obtain ⟨x, j, rfl, rfl, hxj, hrt, hrow, hbel⟩ := hrel
    have R0 := Lib.hid hrow
    have R5 := Lib.hid hbel
    have HT := Lib.hid hrt
    clear hrow hbel hrt
    cases j with
    | zero =>
      have hx0 : bitN 0 = 0 := rfl
      rw [hx0]
      have HX : Hid (Z = x) := Lib.hid HT.out.symm
      have hxb : x < 274877906944 := by rw [← HX.out]; exact HZb.out
      have m1 : (x : Int) % 4294967296 = ((x % 4294967296 : Nat) : Int) := by omega
      have m2 : (x : Int).tmod 4294967296 = ((x % 4294967296 : Nat) : Int) := by rw [Int.tmod_eq_emod_of_nonneg (by omega)]; omega
      obtain ⟨X, hX⟩ : ∃ X, x % 4294967296 = X := ⟨_, rfl⟩
      rw [hX] at m1 m2
      have m3 : IntKind.u32.wrap (X : Int) = (X : Int) := by rw [Sh.wrap32]; omega
      have m4 : (X : Int) % 4294967296 = (X : Int) := by omega
      have HX2 : Hid (Z % 4294967296 = X) := Lib.hid (by rw [HX.out]; exact hX)
      clear hX hx0
      go_wp2
      go_ret
      exact ⟨by rw [HX2.out]; rfl, R5.out⟩
    | succ j =>
      have hbit : bitN (j + 1) = 2 ^ j := rfl
      have hpow : 2 ^ (j + 1) = 2 * 2 ^ j := by rw [Nat.pow_succ]; omega
      have hpos : 0 < 2 ^ j := Nat.pow_pos (by decide)
      have hhalf := bit_half j
      rw [hbit] at hhalf ⊢
      rw [hpow] at hxj
      have HT1 : Hid (∀ y, y = x + 2 ^ j → (pw 2 y ≤ top 2 p → rt 2 p j y = Z) ∧ (¬ pw 2 y ≤ top 2 p → rt 2 p j x = Z)) := Lib.hid (by
        intro y hy; subst hy
        exact ⟨fun h => by rw [← HT.out, rt_yes h], fun h => by rw [← HT.out, rt_no h]⟩)
      have HJ : Hid (∀ b, b = 2 ^ j → b / 2 = bitN j ∧ x + b + b ≤ 274877906944) := Lib.hid (by intro b hb; subst hb; exact ⟨hhalf, by omega⟩)
      have hb1 : x + 2 ^ j < 274877906944 := by omega
      obtain ⟨b, hb⟩ : ∃ b, b = 2 ^ j := ⟨_, rfl⟩
      rw [← hb] at hpos hb1 ⊢
      have Hb := Lib.hid hb
      clear hb hbit hpow hhalf hxj HT
      obtain ⟨y, hy⟩ : ∃ y, y = x + b := ⟨_, rfl⟩
      rw [← hy] at hb1
      have Hy := Lib.hid hy
      have g0 : (x : Int) + (b : Int) = (y : Int) := by omega
      have g1 : IntKind.u64.wrap (y : Int) = (y : Int) := wrap64u (by omega) (by omega)
      have gpos : (0 : Int) < (b : Int) := by omega
      have hbl : b ≤ y := by omega
      clear hy
      obtain ⟨o0, ho0⟩ : ∃ o, y % 16777216 = o := ⟨_, rfl⟩
      obtain ⟨o1, ho1⟩ : ∃ o, y / 16777216 = o := ⟨_, rfl⟩
      have d1 : (y : Int) % 16777216 = (o0 : Int) := by omega
      have d2 : (y : Int) / 16777216 = (o1 : Int) := by omega
      have d3 : (y : Int).tmod 16777216 = (o0 : Int) := by rw [Int.tmod_eq_emod_of_nonneg (by omega)]; omega
      have d4 : (y : Int).tdiv 16777216 = (o1 : Int) := by rw [Int.tdiv_eq_ediv_of_nonneg (by omega)]; omega
      have d5 : IntKind.u64.wrap (o1 : Int) = (o1 : Int) := wrap64u (by omega) (by omega)
      have e2 : (b : Int) / 2 = (bitN j : Int) := by rw [← (HJ.out b Hb.out).1]; omega
      have e3 : (b : Int).tdiv 2 = (bitN j : Int) := by rw [Int.tdiv_eq_ediv_of_nonneg (by omega)]; exact e2
      have ebl : bitN j ≤ b := by rw [← (HJ.out b Hb.out).1]; omega
      have e4 : IntKind.u64.wrap (bitN j : Int) = (bitN j : Int) := wrap64u (by omega) (by omega)
      have elt : bitN j < b := by rw [← (HJ.out b Hb.out).1]; omega
      obtain ⟨b2, hb2⟩ : ∃ b2, bitN j = b2 := ⟨_, rfl⟩
      rw [hb2] at e2 e3 ebl e4 elt
      have HB2 := Lib.hid hb2
      have HON : Hid ((N5.mk o0 o1 0 0 0).num = y ∧ (N5.mk o0 o1 0 0 0).Ok) := Lib.hid (by rw [← ho0, ← ho1]; exact one_num y (by omega))
      have HM := Lib.hid fun w0 => mul_q ⟨o0, o1, 0, 0, 0⟩ y y w0 HON.out.2 HON.out.1 (by omega) (sq_lt hb1)
      clear hb2 ho0 ho1
      go_wp2_with fail
      refine (HM.out _).mono ?_
      rintro e w1 ⟨⟨P, rfl, hPo, hPn⟩, hb1'⟩
      have r0 := Lib.hid (row_below (row_alloc R0.out _) hb1' (by simp; have := row_lt R0.out; omega))
      have r5 := Lib.hid (Below.trans (R5.out.alloc R5.out.size (.cells (N5.mk o0 o1 0 0 0).cells 40)) (hb1'.mono (by have := R5.out.size; simp; omega)))
      have hne : w.heap.size < w1.heap.size := row_lt r0.out
      clear hb1' R0 R5
      obtain ⟨P0, P1, P2, P3, P4⟩ := P
      have HP := Lib.hid (And.intro hPo hPn)
      clear hPo hPn
      rw [N5.mk_cells P0 P1 P2 P3 P4]
      go_wp2_with (refine wpList_load_row rfl 40 _ rfl w.heap.size rfl 40 W.cells (0, 0) _ (row_alloc r0.out _) Try.underlying40 rfl (HC.out W) ?_)
      refine (most_q ⟨P0, P1, P2, P3, P4⟩ W (y * y) (top 2 p) _ HP.out.1 HW.out.2 HP.out.2 HW.out.1).mono ?_
      rintro e w4 ⟨rfl, hb4⟩
      have s0 := Lib.hid (row_below (row_alloc r0.out _) hb4 (by simp; omega))
      have s5 := Lib.hid (Below.trans (r5.out.alloc r5.out.size (.cells (N5.mk P0 P1 P2 P3 P4).cells 40)) (hb4.mono (by have := r5.out.size; simp; omega)))
      clear hb4 r0 r5
      have HPW : Hid (pw 2 y = y * y) := Lib.hid (by unfold pw; rw [if_neg (by decide)])
      by_cases hle : y * y ≤ top 2 p
      · have HN : Hid (rt 2 p j y = Z) := Lib.hid ((HT1.out y (by rw [Hy.out, Hb.out])).1 (by rw [HPW.out]; exact hle))
        rw [decide_eq_true hle]
        clear hle
        go_wp2
        go_roundw
        case rel => exact ⟨y, j, rfl, by rw [HB2.out], by have h1 := (HJ.out b Hb.out).2; rw [Hy.out, ← Hb.out]; omega, HN.out, s0.out, s5.out⟩
        case measure => simp [intOf]; omega
      · have HN : Hid (rt 2 p j x = Z) := Lib.hid ((HT1.out y (by rw [Hy.out, Hb.out])).2 (by rw [HPW.out]; exact hle))
        rw [decide_eq_false hle]
        clear hle
        go_wp2
        go_roundw
        case rel => exact ⟨x, j, rfl, by rw [HB2.out], by have h1 := (HJ.out b Hb.out).2; rw [← Hb.out]; omega, HN.out, s0.out, s5.out⟩
        case measure => simp [intOf]; omega
set_option maxHeartbeats 4000000 in
theorem RRoot_3 (p : Nat) (w : World) (h1 : 1 ≤ p) (h2 : p ≤ 1000) :
    Calls Try.prog 11 #[.int .i64 (p : Int), .int .i64 3] w fun e w' => e = .returned (.int .u32 ((rootN 3 p % 4294967296 : Nat) : Int)) ∧ Below w.heap.size w w' := by
  have hp1 : ¬ (p : Int) < 1 := by omega
  have hp2 : ¬ (1000 : Int) < (p : Int) := by omega
  have hu : IntKind.u64.wrap (p : Int) = (p : Int) := wrap64u (by omega) (by omega)
  obtain ⟨W, hW⟩ : ∃ W : N5, W = ⟨0, 0, 0, 0, p⟩ := ⟨_, rfl⟩
  have HW : Hid (W.num = top 3 p ∧ W.Ok) := Lib.hid (by rw [hW]; exact want3 p h2)
  have HWc : Hid (W = ⟨0, 0, 0, 0, p⟩) := Lib.hid hW
  clear hW
  obtain ⟨Z, hZ⟩ : ∃ Z, rootN 3 p = Z := ⟨_, rfl⟩
  rw [hZ]
  have HZ : Hid (rt 3 p 38 0 = Z) := Lib.hid hZ
  have HZb : Hid (Z < 274877906944) := Lib.hid (by
    rw [← hZ]
    apply Nat.lt_of_not_le; intro hc
    have a1 := pw_mono 3 hc
    have a2 := (rootN_is (k := 3) h2).1
    have a3 := pw_big2 (k := 3) h2
    omega)
  clear hZ
  have HC : Hid (∀ x : N5, (Try.prog.info? 40).map (·.size) = some x.cells.size) := Lib.hid fun x => info5
  go_enter Try.func11, Try.ntmps11
  go_wp2
  go_loopw [6, 7] (fun sx sb wr => ∃ x j : Nat, sx = .int .u64 (x : Int) ∧ sb = .int .u64 (bitN j : Int) ∧ x + 2 ^ j ≤ 274877906944 ∧ rt 3 p j x = Z ∧ wr.heap[w.heap.size]? = some (.cells W.cells 40 (0, 0)) ∧ Below w.heap.size w wr) (fun _ sb _ => (intOf sb).toNat)
  case atStart =>
    refine ⟨0, 38, rfl, rfl, by decide, HZ.out, ?_, (Below.refl _ w).alloc (Nat.le_refl _) _⟩
    rw [HWc.out]
    exact row_new w _
  case round =>
    obtain ⟨x, j, rfl, rfl, hxj, hrt, hrow, hbel⟩ := hrel
    have R0 := Lib.hid hrow
    have R5 := Lib.hid hbel
    have HT := Lib.hid hrt
    clear hrow hbel hrt
    cases j with
    | zero =>
      have hx0 : bitN 0 = 0 := rfl
      rw [hx0]
      have HX : Hid (Z = x) := Lib.hid HT.out.symm
      have hxb : x < 274877906944 := by rw [← HX.out]; exact HZb.out
      have m1 : (x : Int) % 4294967296 = ((x % 4294967296 : Nat) : Int) := by omega
      have m2 : (x : Int).tmod 4294967296 = ((x % 4294967296 : Nat) : Int) := by rw [Int.tmod_eq_emod_of_nonneg (by omega)]; omega
      obtain ⟨X, hX⟩ : ∃ X, x % 4294967296 = X := ⟨_, rfl⟩
      rw [hX] at m1 m2
      have m3 : IntKind.u32.wrap (X : Int) = (X : Int) := by rw [Sh.wrap32]; omega
      have m4 : (X : Int) % 4294967296 = (X : Int) := by omega
      have HX2 : Hid (Z % 4294967296 = X) := Lib.hid (by rw [HX.out]; exact hX)
      clear hX hx0
      go_wp2
      go_ret
      exact ⟨by rw [HX2.out]; rfl, R5.out⟩
    | succ j =>
      have hbit : bitN (j + 1) = 2 ^ j := rfl
      have hpow : 2 ^ (j + 1) = 2 * 2 ^ j := by rw [Nat.pow_succ]; omega
      have hpos : 0 < 2 ^ j := Nat.pow_pos (by decide)
      have hhalf := bit_half j
      rw [hbit] at hhalf ⊢
      rw [hpow] at hxj
      have HT1 : Hid (∀ y, y = x + 2 ^ j → (pw 3 y ≤ top 3 p → rt 3 p j y = Z) ∧ (¬ pw 3 y ≤ top 3 p → rt 3 p j x = Z)) := Lib.hid (by
        intro y hy; subst hy
        exact ⟨fun h => by rw [← HT.out, rt_yes h], fun h => by rw [← HT.out, rt_no h]⟩)
      have HJ : Hid (∀ b, b = 2 ^ j → b / 2 = bitN j ∧ x + b + b ≤ 274877906944) := Lib.hid (by intro b hb; subst hb; exact ⟨hhalf, by omega⟩)
      have hb1 : x + 2 ^ j < 274877906944 := by omega
      obtain ⟨b, hb⟩ : ∃ b, b = 2 ^ j := ⟨_, rfl⟩
      rw [← hb] at hpos hb1 ⊢
      have Hb := Lib.hid hb
      clear hb hbit hpow hhalf hxj HT
      obtain ⟨y, hy⟩ : ∃ y, y = x + b := ⟨_, rfl⟩
      rw [← hy] at hb1
      have Hy := Lib.hid hy
      have g0 : (x : Int) + (b : Int) = (y : Int) := by omega
      have g1 : IntKind.u64.wrap (y : Int) = (y : Int) := wrap64u (by omega) (by omega)
      have gpos : (0 : Int) < (b : Int) := by omega
      have hbl : b ≤ y := by omega
      clear hy
      obtain ⟨o0, ho0⟩ : ∃ o, y % 16777216 = o := ⟨_, rfl⟩
      obtain ⟨o1, ho1⟩ : ∃ o, y / 16777216 = o := ⟨_, rfl⟩
      have d1 : (y : Int) % 16777216 = (o0 : Int) := by omega
      have d2 : (y : Int) / 16777216 = (o1 : Int) := by omega
      have d3 : (y : Int).tmod 16777216 = (o0 : Int) := by rw [Int.tmod_eq_emod_of_nonneg (by omega)]; omega
      have d4 : (y : Int).tdiv 16777216 = (o1 : Int) := by rw [Int.tdiv_eq_ediv_of_nonneg (by omega)]; omega
      have d5 : IntKind.u64.wrap (o1 : Int) = (o1 : Int) := wrap64u (by omega) (by omega)
      have e2 : (b : Int) / 2 = (bitN j : Int) := by rw [← (HJ.out b Hb.out).1]; omega
      have e3 : (b : Int).tdiv 2 = (bitN j : Int) := by rw [Int.tdiv_eq_ediv_of_nonneg (by omega)]; exact e2
      have ebl : bitN j ≤ b := by rw [← (HJ.out b Hb.out).1]; omega
      have e4 : IntKind.u64.wrap (bitN j : Int) = (bitN j : Int) := wrap64u (by omega) (by omega)
      have elt : bitN j < b := by rw [← (HJ.out b Hb.out).1]; omega
      obtain ⟨b2, hb2⟩ : ∃ b2, bitN j = b2 := ⟨_, rfl⟩
      rw [hb2] at e2 e3 ebl e4 elt
      have HB2 := Lib.hid hb2
      have HON : Hid ((N5.mk o0 o1 0 0 0).num = y ∧ (N5.mk o0 o1 0 0 0).Ok) := Lib.hid (by rw [← ho0, ← ho1]; exact one_num y (by omega))
      have HM := Lib.hid fun w0 => mul_q ⟨o0, o1, 0, 0, 0⟩ y y w0 HON.out.2 HON.out.1 (by omega) (sq_lt hb1)
      clear hb2 ho0 ho1
      go_wp2_with fail
      refine (HM.out _).mono ?_
      rintro e w1 ⟨⟨P, rfl, hPo, hPn⟩, hb1'⟩
      have r0 := Lib.hid (row_below (row_alloc R0.out _) hb1' (by simp; have := row_lt R0.out; omega))
      have r5 := Lib.hid (Below.trans (R5.out.alloc R5.out.size (.cells (N5.mk o0 o1 0 0 0).cells 40)) (hb1'.mono (by have := R5.out.size; simp; omega)))
      have hne : w.heap.size < w1.heap.size := row_lt r0.out
      clear hb1' R0 R5
      obtain ⟨P0, P1, P2, P3, P4⟩ := P
      have HP := Lib.hid (And.intro hPo hPn)
      clear hPo hPn
      rw [N5.mk_cells P0 P1 P2 P3 P4]
      have HM2 := Lib.hid fun w0 => mul_q ⟨P0, P1, P2, P3, P4⟩ (y * y) y w0 HP.out.1 HP.out.2 (by omega) (cu_lt hb1)
      go_wp2_with fail
      refine (HM2.out _).mono ?_
      rintro e w2 ⟨⟨Q, rfl, hQo, hQn⟩, hb2'⟩
      have q0 := Lib.hid (row_below (row_alloc r0.out _) hb2' (by simp; omega))
      have q1 : Hid (w2.heap[w1.heap.size]? = some (.cells (N5.mk P0 P1 P2 P3 P4).cells 40 (0, 0))) := Lib.hid (row_below (row_new w1 _) hb2' (by simp))
      have q5 := Lib.hid (Below.trans (r5.out.alloc r5.out.size (.cells (N5.mk P0 P1 P2 P3 P4).cells 40)) (hb2'.mono (by have := r5.out.size; simp; omega)))
      have HQ := Lib.hid (And.intro hQo hQn)
      clear hb2' hQo hQn r0
      go_wp2_with (first
        | (refine store_rowE rfl 40 _ _ rfl w1.heap.size Q.cells rfl rfl 40 _ q1.out (HC.out Q) rfl (N5.one Q) ?_; intro w3 hw3; have u0 := Lib.hid (row_oth q0.out hw3 (by omega)); have u1 := Lib.hid (row_self q1.out hw3); have u5 := Lib.hid (below_set q5.out hw3 (by omega)); clear hw3 q0 q1 q5)
        | (refine wpList_load_row rfl 40 _ rfl w1.heap.size rfl 40 Q.cells (0, 0) _ u1.out Try.underlying40 rfl (HC.out Q) ?_)
        | (refine wpList_load_row rfl 40 _ rfl w.heap.size rfl 40 W.cells (0, 0) _ u0.out Try.underlying40 rfl (HC.out W) ?_))
      refine (most_q Q W (y * y * y) (top 3 p) _ HQ.out.1 HW.out.2 HQ.out.2 HW.out.1).mono ?_
      rintro e w4 ⟨rfl, hb4⟩
      have s0 := Lib.hid (row_below u0.out hb4 (row_lt u0.out))
      have s5 := Lib.hid (Below.trans u5.out (hb4.mono u5.out.size))
      clear hb4 u0 u5 u1 r5
      have HPW : Hid (pw 3 y = y * y * y) := Lib.hid (by unfold pw; rw [if_pos rfl])
      by_cases hle : y * y * y ≤ top 3 p
      · have HN : Hid (rt 3 p j y = Z) := Lib.hid ((HT1.out y (by rw [Hy.out, Hb.out])).1 (by rw [HPW.out]; exact hle))
        rw [decide_eq_true hle]
        clear hle
        go_wp2
        go_roundw
        case rel => exact ⟨y, j, rfl, by rw [HB2.out], by have h1 := (HJ.out b Hb.out).2; rw [Hy.out, ← Hb.out]; omega, HN.out, s0.out, s5.out⟩
        case measure => simp [intOf]; omega
      · have HN : Hid (rt 3 p j x = Z) := Lib.hid ((HT1.out y (by rw [Hy.out, Hb.out])).2 (by rw [HPW.out]; exact hle))
        rw [decide_eq_false hle]
        clear hle
        go_wp2
        go_roundw
        case rel => exact ⟨x, j, rfl, by rw [HB2.out], by have h1 := (HJ.out b Hb.out).2; rw [← Hb.out]; omega, HN.out, s0.out, s5.out⟩
        case measure => simp [intOf]; omega
end Go.Proofs.Ytefjdbgmakddjaa
