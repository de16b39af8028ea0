/- The contract of Block. -/
import Derived.Test.YtefjdbgmakddjaaShaConst
import Derived.Deep.RegionWith
namespace Go.Proofs.Ytefjdbgmakddjaa
open Go.RowKit
open Sh
set_option linter.unusedVariables false
theorem rs_congr {k k' m : Nat → Int} {v : V8} : ∀ n, (∀ t, t < n → k t = k' t) → rs k m v n = rs k' m v n
  | 0, _ => rfl
  | n + 1, h => by
    show rnd (rs k m v n) ((k n + ws m n) % 4294967296) = rnd (rs k' m v n) ((k' n + ws m n) % 4294967296)
    rw [rs_congr n (fun t ht => h t (by omega)), h n (by omega)]
theorem blk_congr {k k' m : Nat → Int} {v : V8} (h : ∀ t, t < 64 → k t = k' t) : blk k m v = blk k' m v := by unfold blk; rw [rs_congr 64 h]
/-- The state behind the first 64 bytes of a text; as it was if there are fewer. -/
def stepV (v : V8) (s : ByteArray) : V8 := if s.size < 64 then v else blk kc (wd s) v
theorem stepV_short {v : V8} {s : ByteArray} (h : s.size < 64) : stepV v s = v := if_pos h
theorem stepV_long {v : V8} {s : ByteArray} (h : ¬ s.size < 64) : stepV v s = blk kc (wd s) v := if_neg h
def V8.exp (v : V8) : Array Value := #[.int .u32 v.a, .int .u32 v.b, .int .u32 v.c, .int .u32 v.d, .int .u32 v.e, .int .u32 v.f, .int .u32 v.g, .int .u32 v.h]
theorem compress_x (v R : V8) (s : ByteArray) (d : Array Int) (w : World) (hv : W32 v.e) (hs : 64 ≤ s.size) (hm : s.size ≤ maxLen) (hd : d.size = 64) (hk : ∀ j, j < 64 → d[j]! = kc j) (hR : blk kc (wd s) v = R) :
    Calls Try.prog 29 #[.agg #[.int .u32 v.a, .int .u32 v.b, .int .u32 v.c, .int .u32 v.d, .int .u32 v.e, .int .u32 v.f, .int .u32 v.g, .int .u32 v.h], .string s, .agg (d.map encU)] w
      fun e w' => e = .returned (.agg #[.int .u32 R.a, .int .u32 R.b, .int .u32 R.c, .int .u32 R.d, .int .u32 R.e, .int .u32 R.f, .int .u32 R.g, .int .u32 R.h]) ∧ Below w.heap.size w w' := by
  have h := compress_any v s d w hv hs hm hd
  rw [blk_congr (k' := kc) hk, hR] at h
  unfold V8.val at h
  rw [V8.map v, V8.map R] at h
  exact h
theorem row_drew {w : World} {g : Nat} {o : Option Obj} (h : w.heap[g]? = o) : w.drew.heap[g]? = o := h
set_option maxHeartbeats 4000000 in
theorem Block_any (v : V8) (s : ByteArray) (w : World) (hv : W32 v.e) (hm : s.size ≤ maxLen) :
    Calls Try.prog 17 #[v.val, .string s] w fun e w' => e = .returned (stepV v s).val ∧ Below w.heap.size w w' := by
  unfold V8.val
  rw [V8.map v]
  by_cases hs : s.size < 64
  · have HF := Lib.hid (stepV_short (v := v) hs)
    have hsz : (s.size : Int) < 64 := by omega
    go_enter Try.func17, Try.ntmps17
    go_wp2
    refine bodyPost_ret (results_cell_row rfl _ _ (w.heap.size + 1) 32 #[.int .u32 v.a, .int .u32 v.b, .int .u32 v.c, .int .u32 v.d, .int .u32 v.e, .int .u32 v.f, .int .u32 v.g, .int .u32 v.h] (0, 0) (.array 8 25) rfl ?_ Try.underlying32 rfl info8) rfl ?_
    · first
        | exact row_new1 w _ _
        | exact row8 rfl (row_new1 w _ _) _ _ _ _ _ _ _ _
    · refine ⟨by rw [HF.out, V8.map v], ?_⟩
      first
        | exact ((Below.refl _ w).alloc (Nat.le_refl _) _).alloc (by simp) _
        | exact below8 (((Below.refl _ w).alloc (Nat.le_refl _) _).alloc (by simp) _) (by omega) _ _ _ _ _ _ _ _
  · have HF := Lib.hid (stepV_long (v := v) hs)
    have hsz : ¬ (s.size : Int) < 64 := by omega
    obtain ⟨R, hR⟩ : ∃ R, blk kc (wd s) v = R := ⟨_, rfl⟩
    have HR := Lib.hid hR
    have HV := Lib.hid hv
    have HS : Hid (64 ≤ s.size ∧ s.size ≤ maxLen) := Lib.hid ⟨by omega, hm⟩
    clear hR hv hs
    go_enter Try.func17, Try.ntmps17
    go_wp2
    go_region_with (first
      | (go_at_call 30; refine (constants_any _).mono ?_; rintro e w1 ⟨⟨d, rfl, hd, hk⟩, hb1⟩; have r0 := Lib.hid (row_below (row_drew (row_alloc (row_new w (.cells (v.arr.map encU) 32)) (.cells ((V8.mk 0 0 0 0 0 0 0 0).arr.map encU) 32))) (by rw [V8.map, V8.map]; exact hb1) (by simp; omega)); have r1 := Lib.hid (row_below (row_drew (row_new1 w (.cells (v.arr.map encU) 32) (.cells ((V8.mk 0 0 0 0 0 0 0 0).arr.map encU) 32))) (by rw [V8.map, V8.map]; exact hb1) (by simp)); have r5 := Lib.hid (Below.trans ((((Below.refl _ w).alloc (Nat.le_refl _) _).alloc (by simp) _).drew) (hb1.mono (by simp; omega))); (obtain ⟨z0, z1, z2, z3, z4, z5, z6, z7⟩ := cell8 r0.out); have HK := Lib.hid hk; clear hb1 hk)
      | (go_at_call 29; refine (compress_x v R s d _ HV.out HS.out.1 HS.out.2 hd HK.out HR.out).mono ?_; rintro e w2 ⟨rfl, hb2⟩; have q1 := Lib.hid (row_below r1.out hb2 (row_lt r1.out)); have q5 := Lib.hid (r5.out.trans (hb2.mono r5.out.size)); clear hb2 z0 z1 z2 z3 z4 z5 z6 z7; (obtain ⟨z0, z1, z2, z3, z4, z5, z6, z7⟩ := cell8 q1.out); have f0 := frozen_of_row w2 (w.heap.size + 1) 0 _ _ q1.out; have f1 := frozen_of_row w2 (w.heap.size + 1) 1 _ _ q1.out; have f2 := frozen_of_row w2 (w.heap.size + 1) 2 _ _ q1.out; have f3 := frozen_of_row w2 (w.heap.size + 1) 3 _ _ q1.out; have f4 := frozen_of_row w2 (w.heap.size + 1) 4 _ _ q1.out; have f5 := frozen_of_row w2 (w.heap.size + 1) 5 _ _ q1.out; have f6 := frozen_of_row w2 (w.heap.size + 1) 6 _ _ q1.out; have f7 := frozen_of_row w2 (w.heap.size + 1) 7 _ _ q1.out))
    all_goals
      go_wp2
      refine bodyPost_ret (results_cell_row rfl _ _ (w.heap.size + 1) 32 #[.int .u32 R.a, .int .u32 R.b, .int .u32 R.c, .int .u32 R.d, .int .u32 R.e, .int .u32 R.f, .int .u32 R.g, .int .u32 R.h] (0, 0) (.array 8 25) rfl (row8 (size8 _) q1.out _ _ _ _ _ _ _ _) Try.underlying32 rfl info8) rfl ?_
      exact ⟨by rw [HF.out, HR.out, V8.map R], below8 q5.out (by omega) _ _ _ _ _ _ _ _⟩
end Go.Proofs.Ytefjdbgmakddjaa
