/- The contract of the document's own Blocks. -/
import Derived.Test.YtefjdbgmakddjaaShaBlk
import Derived.Test.YtefjdbgmakddjaaRefBlock
import Derived.Test.YtefjdbgmakddjaaRefConst
namespace Go.Proofs.Ytefjdbgmakddjaa
open Go.RowKit
open Sh
set_option linter.unusedVariables false
set_option maxHeartbeats 4000000 in
set_option maxRecDepth 100000 in
theorem RBlock_short (v : V8) (s : ByteArray) (k : Value) (w : World) (hs : s.size < 64) :
    Calls Try.prog 31 #[.agg #[.int .u32 v.a, .int .u32 v.b, .int .u32 v.c, .int .u32 v.d, .int .u32 v.e, .int .u32 v.f, .int .u32 v.g, .int .u32 v.h], .string s, k] w
      fun e w' => e = .returned (.agg #[.int .u32 v.a, .int .u32 v.b, .int .u32 v.c, .int .u32 v.d, .int .u32 v.e, .int .u32 v.f, .int .u32 v.g, .int .u32 v.h]) ∧ Below w.heap.size w w' := by
  have hsz : (s.size : Int) < 64 := by omega
  go_enter Try.func31, Try.ntmps31
  go_wp2
  refine bodyPost_ret (results_cell_row rfl _ _ (w.heap.size + 1) 31 #[.int .u32 v.a, .int .u32 v.b, .int .u32 v.c, .int .u32 v.d, .int .u32 v.e, .int .u32 v.f, .int .u32 v.g, .int .u32 v.h] (0, 0) (.array 8 25) rfl ?_ Try.underlying31 rfl infoS8) rfl ?_
  · first
      | exact row_new1 w _ _
      | exact row8 rfl (row_new1 w _ _) _ _ _ _ _ _ _ _
  · refine ⟨rfl, ?_⟩
    first
      | exact ((Below.refl _ w).alloc (Nat.le_refl _) _).alloc (by simp) _
      | exact below8 (((Below.refl _ w).alloc (Nat.le_refl _) _).alloc (by simp) _) (by omega) _ _ _ _ _ _ _ _
theorem RBlock_x (v R : V8) (s : ByteArray) (k : Value) (w : World) (hv : W32 v.e) (hm : s.size ≤ maxLen) (hk : RE encU w k kl) (hR : stepV v s = R) :
    Calls Try.prog 31 #[.agg #[.int .u32 v.a, .int .u32 v.b, .int .u32 v.c, .int .u32 v.d, .int .u32 v.e, .int .u32 v.f, .int .u32 v.g, .int .u32 v.h], .string s, k] w
      fun e w' => e = .returned (.agg #[.int .u32 R.a, .int .u32 R.b, .int .u32 R.c, .int .u32 R.d, .int .u32 R.e, .int .u32 R.f, .int .u32 R.g, .int .u32 R.h]) ∧ Below w.heap.size w w' := by
  subst hR
  by_cases hs : s.size < 64
  · rw [stepV_short hs]; exact RBlock_short v s k w hs
  · rw [stepV_long hs]
    obtain ⟨a, cap, rfl, h1, h2, h3⟩ := hk
    rcases h3 with ⟨h0, -⟩ | ⟨b, rfl, h4, h5⟩
    · have := kl_len; rw [h0] at this; exact absurd this (by decide)
    · rw [kl_len] at h1 ⊢
      have h := RBlock_any v s b cap kl w hv (by omega) hm kl_len h1 h4 h5
      rw [blk_congr (k' := kc) (fun t ht => by
        have ht2 : t < kl.length := by rw [kl_len]; exact ht
        show kl.toArray[t]! = kc t
        rw [getElem!_pos kl.toArray t (by simpa using ht2), List.getElem_toArray]
        exact kl_get t ht2)] at h
      unfold V8.val at h
      rw [V8.map v, V8.map (blk kc (wd s) v)] at h
      exact h
set_option maxHeartbeats 4000000 in
theorem Blocks_any (v : V8) (s : ByteArray) (w : World) (hv : W32 v.e) (hm : s.size ≤ maxLen) :
    Calls Try.prog 18 #[v.val, .string s] w fun e w' => e = .returned (stepV v s).val ∧ Below w.heap.size w w' := by
  unfold V8.val
  rw [V8.map v]
  obtain ⟨R, hR⟩ : ∃ R, stepV v s = R := ⟨_, rfl⟩
  have HR := Lib.hid hR
  have HV := Lib.hid hv
  clear hR hv
  go_enter Try.func18, Try.ntmps18
  go_wp2
  go_region_with (first
    | (go_at_call 32; refine (Rconstants_any _).mono ?_; rintro e w1 ⟨k, rfl, hk, hb1⟩; have r0 := Lib.hid (row_below (row_drew (row_alloc (row_new w (.cells (v.arr.map encU) 31)) (.cells ((V8.mk 0 0 0 0 0 0 0 0).arr.map encU) 31))) (by rw [V8.map, V8.map]; exact hb1) (by simp; omega)); have r1 := Lib.hid (row_below (row_drew (row_new1 w (.cells (v.arr.map encU) 31) (.cells ((V8.mk 0 0 0 0 0 0 0 0).arr.map encU) 31))) (by rw [V8.map, V8.map]; exact hb1) (by simp)); have r5 := Lib.hid (Below.trans ((((Below.refl _ w).alloc (Nat.le_refl _) _).alloc (by simp) _).drew) (hb1.mono (by simp; omega))); (obtain ⟨z0, z1, z2, z3, z4, z5, z6, z7⟩ := cell8 r0.out); have HK := Lib.hid hk; clear hb1 hk)
    | (go_at_call 31; refine (RBlock_x v R s k _ HV.out hm HK.out HR.out).mono ?_; rintro e w2 ⟨rfl, hb2⟩; have q1 := Lib.hid (row_below r1.out hb2 (row_lt r1.out)); have q5 := Lib.hid (r5.out.trans (hb2.mono r5.out.size)); clear hb2 z0 z1 z2 z3 z4 z5 z6 z7; (obtain ⟨z0, z1, z2, z3, z4, z5, z6, z7⟩ := cell8 q1.out); have f0 := frozen_of_row w2 (w.heap.size + 1) 0 _ _ q1.out; have f1 := frozen_of_row w2 (w.heap.size + 1) 1 _ _ q1.out; have f2 := frozen_of_row w2 (w.heap.size + 1) 2 _ _ q1.out; have f3 := frozen_of_row w2 (w.heap.size + 1) 3 _ _ q1.out; have f4 := frozen_of_row w2 (w.heap.size + 1) 4 _ _ q1.out; have f5 := frozen_of_row w2 (w.heap.size + 1) 5 _ _ q1.out; have f6 := frozen_of_row w2 (w.heap.size + 1) 6 _ _ q1.out; have f7 := frozen_of_row w2 (w.heap.size + 1) 7 _ _ q1.out))
  all_goals
    go_wp2
    refine bodyPost_ret (results_cell_row rfl _ _ (w.heap.size + 1) 31 #[.int .u32 R.a, .int .u32 R.b, .int .u32 R.c, .int .u32 R.d, .int .u32 R.e, .int .u32 R.f, .int .u32 R.g, .int .u32 R.h] (0, 0) (.array 8 25) rfl (row8 (size8 _) q1.out _ _ _ _ _ _ _ _) Try.underlying31 rfl infoS8) rfl ?_
    exact ⟨by rw [HR.out, V8.map R], below8 q5.out (by omega) _ _ _ _ _ _ _ _⟩
end Go.Proofs.Ytefjdbgmakddjaa
