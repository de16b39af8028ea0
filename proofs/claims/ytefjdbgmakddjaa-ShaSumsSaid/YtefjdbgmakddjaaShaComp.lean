/- The contract of compress. -/
import Derived.Test.YtefjdbgmakddjaaShaSched
namespace Go.Proofs.Ytefjdbgmakddjaa
open Go.RowKit
open Sh
set_option linter.unusedVariables false
/-- A state of eight words. -/
structure V8 where
  a : Int
  b : Int
  c : Int
  d : Int
  e : Int
  f : Int
  g : Int
  h : Int
def V8.arr (v : V8) : Array Int := #[v.a, v.b, v.c, v.d, v.e, v.f, v.g, v.h]
def V8.val (v : V8) : Value := .agg (v.arr.map encU)
theorem V8.map (v : V8) : v.arr.map encU = #[.int .u32 v.a, .int .u32 v.b, .int .u32 v.c, .int .u32 v.d, .int .u32 v.e, .int .u32 v.f, .int .u32 v.g, .int .u32 v.h] := by simp [V8.arr, encU]
theorem V8.mk_map (a b c d e f g h : Int) : (V8.mk a b c d e f g h).arr.map encU = #[.int .u32 a, .int .u32 b, .int .u32 c, .int .u32 d, .int .u32 e, .int .u32 f, .int .u32 g, .int .u32 h] := V8.map _
/-- One round. -/
def rnd (v : V8) (s : Int) : V8 := ⟨(v.h + S1 v.e + ch v.e v.f v.g + s + (S0 v.a + maj v.a v.b v.c)) % 4294967296, v.a, v.b, v.c, (v.d + (v.h + S1 v.e + ch v.e v.f v.g + s)) % 4294967296, v.e, v.f, v.g⟩
def rs (k m : Nat → Int) (v : V8) : Nat → V8
  | 0 => v
  | t + 1 => rnd (rs k m v t) ((k t + ws m t) % 4294967296)
def fin (v u : V8) : V8 := ⟨(v.a + u.a) % 4294967296, (v.b + u.b) % 4294967296, (v.c + u.c) % 4294967296, (v.d + u.d) % 4294967296, (v.e + u.e) % 4294967296, (v.f + u.f) % 4294967296, (v.g + u.g) % 4294967296, (v.h + u.h) % 4294967296⟩
/-- The state behind a block. -/
def blk (k m : Nat → Int) (v : V8) : V8 := fin v (rs k m v 64)
theorem rs_e {k m : Nat → Int} {v : V8} (h : W32 v.e) : ∀ t, W32 (rs k m v t).e
  | 0 => h
  | t + 1 => by show W32 ((_ : Int) % 4294967296); unfold W32; omega
theorem round_v (v : V8) (s : Int) (w : World) (he : W32 v.e) :
    Calls Try.prog 43 #[.agg (v.arr.map encU), .int .u32 s] w fun ee w' => ee = .returned (.agg ((rnd v s).arr.map encU)) ∧ Below w.heap.size w w' := by
  rw [V8.map, V8.map]; exact round_any v.a v.b v.c v.d v.e v.f v.g v.h s w he
theorem cell8 {w : World} {g : Nat} {ty : TypeId} {u : V8} (h : w.heap[g]? = some (.cells (u.arr.map encU) ty (0, 0))) :
    w.cell? ⟨g, 0, none⟩ = some (.int .u32 u.a) ∧ w.cell? ⟨g, 1, none⟩ = some (.int .u32 u.b) ∧ w.cell? ⟨g, 2, none⟩ = some (.int .u32 u.c) ∧ w.cell? ⟨g, 3, none⟩ = some (.int .u32 u.d) ∧
    w.cell? ⟨g, 4, none⟩ = some (.int .u32 u.e) ∧ w.cell? ⟨g, 5, none⟩ = some (.int .u32 u.f) ∧ w.cell? ⟨g, 6, none⟩ = some (.int .u32 u.g) ∧ w.cell? ⟨g, 7, none⟩ = some (.int .u32 u.h) := by
  rw [V8.map] at h
  refine ⟨?_, ?_, ?_, ?_, ?_, ?_, ?_, ?_⟩ <;> (rw [cell_of_row w g _ _ ty (0, 0) h]; rfl)
theorem size8 (v : V8) : (v.arr.map encU).size = 8 := by rw [Array.size_map]; rfl
theorem fin_arr {v u : V8} {d : Array Int} (hd : d.size = 8) (h : ∀ j, j < 8 → d[j]! = (v.arr[j]! + u.arr[j]!) % 4294967296) : d = (fin v u).arr := by
  apply Array.ext (by rw [hd]; rfl)
  intro i h1 h2
  rw [← getElem!_pos d i h1, ← getElem!_pos (fin v u).arr i h2, h i (by omega)]
  have hi : i < 8 := by omega
  match i, hi with
  | 0, _ => rfl
  | 1, _ => rfl
  | 2, _ => rfl
  | 3, _ => rfl
  | 4, _ => rfl
  | 5, _ => rfl
  | 6, _ => rfl
  | 7, _ => rfl
set_option maxHeartbeats 8000000 in
theorem compress_any (v : V8) (s : ByteArray) (kd : Array Int) (w : World) (hv : W32 v.e) (hs : 64 ≤ s.size) (hm : s.size ≤ maxLen) (hk : kd.size = 64) :
    Calls Try.prog 29 #[v.val, .string s, .agg (kd.map encU)] w fun e w' => e = .returned (blk (fun t => kd[t]!) (wd s) v).val ∧ Below w.heap.size w w' := by
  unfold V8.val
  obtain ⟨K, hK⟩ : ∃ K : Nat → Int, K = fun t => kd[t]! := ⟨_, rfl⟩
  rw [← hK]
  have HK : Hid (∀ t, K t = kd[t]!) := Lib.hid fun t => by rw [hK]
  clear hK
  go_enter Try.func29, Try.ntmps29
  go_wp2_with fail
  refine (schedule_any s _ hs hm).mono ?_
  rintro e w1 ⟨⟨d, rfl, hd, hw⟩, hb1⟩
  have r0 : w1.heap[w.heap.size]? = some (.cells (v.arr.map encU) 32 (0, 0)) := row_below (row_alloc (row_alloc (row_new w _) _) _) hb1 (by simp; omega)
  have r1 : w1.heap[w.heap.size + 1]? = some (.cells (kd.map encU) 49 (0, 0)) := row_below (row_alloc (row_new1 w _ _) _) hb1 (by simp)
  have r2 : w1.heap[w.heap.size + 1 + 1]? = some (.cells ((zeros 8).map encU) 32 (0, 0)) := by
    rw [zeros_map]
    exact row_below (row_new2 w _ _ _) hb1 (by simp)
  have hG : w.heap.size + 3 ≤ w1.heap.size := by have := hb1.size; simpa using this
  have hB : Below w.heap.size w w1 := Below.trans ((((Below.refl _ w).alloc (Nat.le_refl _) _).alloc (by simp) _).alloc (by simp; omega) _) (hb1.mono (by simp; omega))
  have R0 := Lib.hid r0
  have R1 := Lib.hid r1
  have R2 := Lib.hid r2
  have HB := Lib.hid hB
  have HW := Lib.hid hw
  clear r0 r1 r2 hb1 hB hw
  have hnew := row_new w1 (.cells (Array.replicate 64 (.int .u32 0)) 49)
  have hi64 : (Try.prog.info? 49).map (·.size) = some (d.map encU).size := by rw [Array.size_map, hd]; exact info64
  have HI8 := Lib.hid fun u : V8 => (show (Try.prog.info? 32).map (·.size) = some (u.arr.map encU).size by rw [size8]; exact info8)
  have HI64 := Lib.hid hi64
  have HO8 := Lib.hid fun u : V8 => cells_one u.arr
  have HO64 := Lib.hid (cells_one d)
  have HN := Lib.hid hnew
  clear hi64 hnew
  go_wp2_with (first
    | (refine store_rowE rfl 49 _ _ rfl w1.heap.size (d.map encU) rfl rfl 49 _ HN.out HI64.out (by rw [Array.size_map, hd]; rfl) HO64.out ?_; intro w2 hw2; have q0 := Lib.hid (row_oth (row_alloc R0.out _) hw2 (by omega)); have q1 := Lib.hid (row_oth (row_alloc R1.out _) hw2 (by omega)); have q2 := Lib.hid (row_oth (row_alloc R2.out _) hw2 (by omega)); have q3 := Lib.hid (row_self (row_new w1 _) hw2); have q4 := Lib.hid (below_set (HB.out.alloc HB.out.size _) hw2 HB.out.size); have q5 : Hid (w2.heap.size = w1.heap.size + 1) := Lib.hid (by rw [size_set hw2]; simp); clear hw2 R0 R1 R2 HB HN)
    | (refine wpList_load_row rfl 32 _ rfl w.heap.size rfl 32 (v.arr.map encU) (0, 0) _ q0.out Try.underlying32 rfl (HI8.out v) ?_)
    | (refine store_rowE rfl 32 _ _ rfl w2.heap.size (v.arr.map encU) rfl rfl 32 _ (row_new w2 _) (HI8.out v) (by rw [size8]; rfl) (HO8.out v) ?_; intro w3 hw3; have r0 := Lib.hid (row_oth (row_alloc q0.out _) hw3 (by have := q5.out; omega)); have r1 := Lib.hid (row_oth (row_alloc q1.out _) hw3 (by have := q5.out; omega)); have r2 := Lib.hid (row_oth (row_alloc q2.out _) hw3 (by have := q5.out; omega)); have r3 := Lib.hid (row_oth (row_alloc q3.out _) hw3 (by have := q5.out; omega)); have r4 := Lib.hid (row_self (row_new w2 _) hw3); have r5 := Lib.hid (below_set (q4.out.alloc q4.out.size _) hw3 q4.out.size); clear hw3 q0 q1 q2 q3 q4))
  obtain ⟨G, hGe⟩ : ∃ G, w1.heap.size = G := ⟨_, rfl⟩
  obtain ⟨G2, hGe2⟩ : ∃ G2, w2.heap.size = G2 := ⟨_, rfl⟩
  have HG2 : Hid (G2 = G + 1) := Lib.hid (by rw [← hGe, ← hGe2]; exact q5.out)
  rw [hGe] at hG r3 ⊢
  rw [hGe2] at r4 ⊢
  clear hGe hGe2 q5
  go_loopw [14] (fun i wr => ∃ t : Nat, ∃ u : V8, t ≤ 64 ∧ i = .int .i64 (t : Int) ∧ u = rs K (wd s) v t ∧ wr.heap[w.heap.size]? = some (.cells (v.arr.map encU) 32 (0, 0)) ∧ Arr wr (w.heap.size + 1) 49 kd ∧ wr.heap[w.heap.size + 1 + 1]? = some (.cells ((zeros 8).map encU) 32 (0, 0)) ∧ Arr wr G 49 d ∧ wr.heap[G2]? = some (.cells (u.arr.map encU) 32 (0, 0)) ∧ Below w.heap.size w wr) (fun i _ => 64 - (intOf i).toNat)
  case atStart => exact ⟨0, v, Nat.zero_le _, rfl, rfl, r0.out, r1.out, r2.out, r3.out, r4.out, r5.out⟩
  case round =>
    clear r0 r1 r2 r3 r4 r5
    obtain ⟨t, u, ht, rfl, hu, r0, r1, r2, r3, r4, r5⟩ := hrel
    by_cases hlt : t < 64
    · have HE : Hid (W32 u.e) := Lib.hid (by rw [hu]; exact rs_e hv t)
      have HX : Hid (rs K (wd s) v (t + 1) = rnd u ((kd[t]! + d[t]!) % 4294967296)) := Lib.hid (by rw [HW.out t hlt, ← HK.out t, hu]; rfl)
      obtain ⟨a, b, c, dd, e, f, g, hh⟩ := u
      obtain ⟨z0, z1, z2, z3, z4, z5, z6, z7⟩ := cell8 r4
      have ck := r1.cell t (by omega)
      have cw := r3.cell t (by omega)
      generalize kd[t]! = y1 at ck HX
      generalize d[t]! = y2 at cw HX
      have q0 := Lib.hid r0
      have q1 := Lib.hid r1
      have q2 := Lib.hid r2
      have q3 := Lib.hid r3
      have q4 := Lib.hid r4
      have q5 := Lib.hid r5
      clear r0 r1 r2 r3 r4 r5 hu
      go_wp2
      refine region_tail 8 (by kernel_rfl) (by kernel_rfl) ?_
      intro w9 hw9
      simp only [List.take_succ_cons, List.take_zero, List.drop_succ_cons, List.drop_zero]
      replace ck : w9.cell? ⟨w.heap.size + 1, t, none⟩ = some (.int .u32 y1) := by rw [hw9]; exact ck
      replace cw : w9.cell? ⟨G, t, none⟩ = some (.int .u32 y2) := by rw [hw9]; exact cw
      replace z0 : w9.cell? ⟨G2, 0, none⟩ = some (.int .u32 a) := by rw [hw9]; exact z0
      replace z1 : w9.cell? ⟨G2, 1, none⟩ = some (.int .u32 b) := by rw [hw9]; exact z1
      replace z2 : w9.cell? ⟨G2, 2, none⟩ = some (.int .u32 c) := by rw [hw9]; exact z2
      replace z3 : w9.cell? ⟨G2, 3, none⟩ = some (.int .u32 dd) := by rw [hw9]; exact z3
      replace z4 : w9.cell? ⟨G2, 4, none⟩ = some (.int .u32 e) := by rw [hw9]; exact z4
      replace z5 : w9.cell? ⟨G2, 5, none⟩ = some (.int .u32 f) := by rw [hw9]; exact z5
      replace z6 : w9.cell? ⟨G2, 6, none⟩ = some (.int .u32 g) := by rw [hw9]; exact z6
      replace z7 : w9.cell? ⟨G2, 7, none⟩ = some (.int .u32 hh) := by rw [hw9]; exact z7
      replace q0 : Hid (w9.heap[w.heap.size]? = some (.cells (v.arr.map encU) 32 (0, 0))) := Lib.hid (by rw [hw9]; exact q0.out)
      replace q1 : Hid (Arr w9 (w.heap.size + 1) 49 kd) := Lib.hid (by rw [hw9]; exact q1.out)
      replace q2 : Hid (w9.heap[w.heap.size + 1 + 1]? = some (.cells ((zeros 8).map encU) 32 (0, 0))) := Lib.hid (by rw [hw9]; exact q2.out)
      replace q3 : Hid (Arr w9 G 49 d) := Lib.hid (by rw [hw9]; exact q3.out)
      replace q4 : Hid (w9.heap[G2]? = some (.cells ((V8.mk a b c dd e f g hh).arr.map encU) 32 (0, 0))) := Lib.hid (by rw [hw9]; exact q4.out)
      replace q5 : Hid (Below w.heap.size w w9) := Lib.hid (by rw [hw9]; exact q5.out.drew)
      clear hw9
      refine still_load_row rfl 32 _ rfl G2 rfl 32 _ (0, 0) _ q4.out Try.underlying32 rfl (HI8.out _) ?_
      rw [V8.mk_map a b c dd e f g hh]
      repeat still_step
      refine wpStill_nil ?_
      obtain ⟨U1, hU1⟩ : ∃ U1, U1 = rnd ⟨a, b, c, dd, e, f, g, hh⟩ ((y1 + y2) % 4294967296) := ⟨_, rfl⟩
      have HU : Hid (U1.arr.map encU = #[.int .u32 ((hh + S1 e + ch e f g + (y1 + y2) % 4294967296 + (S0 a + maj a b c)) % 4294967296), .int .u32 a, .int .u32 b, .int .u32 c, .int .u32 ((dd + (hh + S1 e + ch e f g + (y1 + y2) % 4294967296)) % 4294967296), .int .u32 e, .int .u32 f, .int .u32 g]) := Lib.hid (by rw [hU1]; exact V8.map _)
      rw [← hU1] at HX
      clear hU1
      go_wp2_with (first
        | (go_at_call 43; refine (round_any a b c dd e f g hh _ _ HE.out).mono ?_; rintro ee w4 ⟨rfl, hb4⟩; have q0 := Lib.hid (row_below q0.out hb4 (row_lt q0.out)); have q1 := Lib.hid (row_below q1.out hb4 (row_lt q1.out)); have q2 := Lib.hid (row_below q2.out hb4 (row_lt q2.out)); have q3 := Lib.hid (row_below q3.out hb4 (row_lt q3.out)); have q4 := Lib.hid (row_below q4.out hb4 (row_lt q4.out)); have q5 := Lib.hid (q5.out.trans (hb4.mono q5.out.size)); clear hb4)
        | (refine store_rowE rfl 32 _ _ rfl G2 (U1.arr.map encU) rfl (congrArg Value.agg HU.out.symm) 32 _ q4.out (HI8.out U1) ?hs1 (HO8.out U1) ?_; rotate_left; intro w5 hw5; have q0 := Lib.hid (row_oth q0.out hw5 (by have := HG2.out; omega)); have q1 := Lib.hid (row_oth q1.out hw5 (by have := HG2.out; omega)); have q2 := Lib.hid (row_oth q2.out hw5 (by have := HG2.out; omega)); have q3 := Lib.hid (row_oth q3.out hw5 (by have := HG2.out; omega)); have q4 := Lib.hid (row_self q4.out hw5); have q5 := Lib.hid (below_set q5.out hw5 (by have := HG2.out; omega)); clear hw5))
      case hs1 => rw [size8, size8]
      case roundEnd =>
        refine ⟨?_, by simp [intOf]; omega⟩
        first
          | exact ⟨t + 1, U1, by omega, by go_num, HX.out.symm, q0.out, q1.out, q2.out, q3.out, q4.out, q5.out⟩
          | (repeat apply Exists.intro
             exact ⟨⟨t + 1, U1, by omega, by go_num, HX.out.symm, q0.out, q1.out, q2.out, q3.out, q4.out, q5.out⟩, rfl⟩)
    · obtain rfl : t = 64 := by omega
      obtain ⟨w0, hw0⟩ : ∃ w0, w0 = wr := ⟨_, rfl⟩
      subst hw0
      have HF : Hid (blk K (wd s) v = fin v u) := Lib.hid (by rw [hu]; rfl)
      have q0 := Lib.hid r0
      have q2 := Lib.hid r2
      have q4 := Lib.hid r4
      have q5 := Lib.hid r5
      clear r0 r1 r2 r3 r4 r5 hu HW HI64 HO64 HK
      go_wp2
      go_loopw [27] (fun si wr => ∃ i : Nat, ∃ dh : Array Int, i ≤ 8 ∧ si = .int .i64 (i : Int) ∧ dh.size = 8 ∧ (∀ j, j < 8 → dh[j]! = if j < i then (v.arr[j]! + u.arr[j]!) % 4294967296 else v.arr[j]!) ∧ Arr wr w.heap.size 32 dh ∧ wr.heap[w.heap.size + 1 + 1]? = some (.cells ((zeros 8).map encU) 32 (0, 0)) ∧ Arr wr G2 32 u.arr ∧ Below w.heap.size w wr) (fun si _ => 8 - (intOf si).toNat)
      case atStart => exact ⟨0, v.arr, Nat.zero_le _, rfl, rfl, fun j _ => by rw [if_neg (Nat.not_lt_zero _)], q0.out, q2.out, q4.out, q5.out⟩
      case round =>
        clear q0 q2 q4 q5
        obtain ⟨i, dh, hi, rfl, hdh, hall, r0, r2, r4, r5⟩ := hrel
        have HA := Lib.hid hall
        have q0 := Lib.hid r0
        have q2 := Lib.hid r2
        have q4 := Lib.hid r4
        have q5 := Lib.hid r5
        clear r0 r2 r4 r5 hall
        by_cases hlt : i < 8
        · have HX : Hid (dh[i]! = v.arr[i]!) := Lib.hid (by rw [HA.out i hlt, if_neg (by omega)])
          have c1 := q0.out.cell i (by omega)
          have c2 := q4.out.cell i (show i < 8 from hlt)
          have cf := q0.out.frozen i
          have hus : (u.arr)[i]! = (u.arr)[i]! := rfl
          obtain ⟨y1, hy1⟩ : ∃ y1, dh[i]! = y1 := ⟨_, rfl⟩
          obtain ⟨y2, hy2⟩ : ∃ y2, u.arr[i]! = y2 := ⟨_, rfl⟩
          rw [hy1] at c1
          rw [hy2] at c2
          have HY : Hid (dh[i]! = y1 ∧ u.arr[i]! = y2) := Lib.hid ⟨hy1, hy2⟩
          clear hus hy1 hy2
          go_wp2
          refine region_tail 8 (by kernel_rfl) (by kernel_rfl) ?_
          intro w9 hw9
          simp only [List.take_succ_cons, List.take_zero, List.drop_succ_cons, List.drop_zero]
          replace c1 : w9.cell? ⟨w.heap.size, i, none⟩ = some (.int .u32 y1) := by rw [hw9]; exact c1
          replace c2 : w9.cell? ⟨G2, i, none⟩ = some (.int .u32 y2) := by rw [hw9]; exact c2
          replace cf : w9.frozen? ⟨w.heap.size, i, none⟩ = false := by rw [hw9]; exact cf
          replace q0 : Hid (Arr w9 w.heap.size 32 dh) := Lib.hid (by rw [hw9]; exact q0.out)
          replace q2 : Hid (w9.heap[w.heap.size + 1 + 1]? = some (.cells ((zeros 8).map encU) 32 (0, 0))) := Lib.hid (by rw [hw9]; exact q2.out)
          replace q4 : Hid (Arr w9 G2 32 u.arr) := Lib.hid (by rw [hw9]; exact q4.out)
          replace q5 : Hid (Below w.heap.size w w9) := Lib.hid (by rw [hw9]; exact q5.out.drew)
          clear hw9
          repeat still_step
          refine wpStill_nil ?_
          go_wp2
          refine ⟨?_, by simp [intOf]; omega⟩
          repeat apply Exists.intro
          refine ⟨⟨i + 1, dh.setIfInBounds i ((y1 + y2) % 4294967296), by omega, by go_num, by simp [hdh], fun j hj => ?_, q0.out.set i _, row_other q2.out _ _ (by show w.heap.size + 1 + 1 ≠ w.heap.size; omega), row_other q4.out _ _ (by have := HG2.out; show G2 ≠ w.heap.size; omega), q5.out.setCell (Nat.le_refl _) _⟩, rfl⟩
          by_cases e : j = i
          · subst e; rw [get_set_same _ _ _ (by omega), if_pos (by omega), ← HX.out, HY.out.1, HY.out.2]
          · rw [get_set_other _ _ _ _ e, HA.out j hj]
            by_cases hji : j < i
            · rw [if_pos hji, if_pos (by omega)]
            · rw [if_neg hji, if_neg (by omega)]
        · obtain rfl : i = 8 := by omega
          have he : dh = (fin v u).arr := fin_arr hdh fun j hj => by rw [HA.out j hj, if_pos hj]
          subst he
          have q0' := q0.out
          unfold Arr at q0'
          have Q0 := Lib.hid q0'
          clear q0' HA q0
          go_wp2_with (first
            | (refine wpList_load_row rfl 32 _ rfl w.heap.size rfl 32 ((fin v u).arr.map encU) (0, 0) _ Q0.out Try.underlying32 rfl (HI8.out _) ?_)
            | (refine wpList_store_row rfl 32 _ _ rfl (w.heap.size + 1 + 1) ((fin v u).arr.map encU) rfl rfl 32 _ q2.out (HI8.out _) ?hs2 (HO8.out _) ?_; rotate_left))
          case hs2 => rw [size8, Array.size_map]; exact zeros_size 8
          all_goals
            refine bodyPost_ret (results_cell_row rfl _ _ (w.heap.size + 1 + 1) 32 ((fin v u).arr.map encU) (0, 0) (.array 8 25) rfl (setRow_heap _ _ _ _ _ _ q2.out) Try.underlying32 rfl (HI8.out _)) rfl ?_
            exact ⟨by rw [HF.out], q5.out.setRow (by omega) _⟩
end Go.Proofs.Ytefjdbgmakddjaa
