/- ShaBlocks: Block returns the state of the document's own answer. -/
import Derived.Test.YtefjdbgmakddjaaRefBlocks
import Derived.Test.YtefjdbgmakddjaaShaAwake
import Derived.Deep.RegionLaw
import Derived.ChangeKeysEq
import Derived.Laws.StructEq
import Derived.OpenShut
namespace Go.Proofs.Ytefjdbgmakddjaa
open Go.RowKit
open Sh
set_option linter.unusedVariables false
theorem Block_x (v R : V8) (s : ByteArray) (w : World) (hv : W32 v.e) (hm : s.size ≤ maxLen) (hR : stepV v s = R) :
    Calls Try.prog 17 #[.agg #[.int .u32 v.a, .int .u32 v.b, .int .u32 v.c, .int .u32 v.d, .int .u32 v.e, .int .u32 v.f, .int .u32 v.g, .int .u32 v.h], .string s] w
      fun e w' => e = .returned (.agg #[.int .u32 R.a, .int .u32 R.b, .int .u32 R.c, .int .u32 R.d, .int .u32 R.e, .int .u32 R.f, .int .u32 R.g, .int .u32 R.h]) ∧ Below w.heap.size w w' := by
  have h := Block_any v s w hv hm
  rw [hR] at h
  unfold V8.val at h
  rw [V8.map v, V8.map R] at h
  exact h
theorem Blocks_x (v R : V8) (s : ByteArray) (w : World) (hv : W32 v.e) (hm : s.size ≤ maxLen) (hR : stepV v s = R) :
    Calls Try.prog 18 #[.agg #[.int .u32 v.a, .int .u32 v.b, .int .u32 v.c, .int .u32 v.d, .int .u32 v.e, .int .u32 v.f, .int .u32 v.g, .int .u32 v.h], .string s] w
      fun e w' => e = .returned (.agg #[.int .u32 R.a, .int .u32 R.b, .int .u32 R.c, .int .u32 R.d, .int .u32 R.e, .int .u32 R.f, .int .u32 R.g, .int .u32 R.h]) ∧ Below w.heap.size w w' := by
  have h := Blocks_any v s w hv hm
  rw [hR] at h
  unfold V8.val at h
  rw [V8.map v, V8.map R] at h
  exact h
theorem eqItems_self (d : Nat) (cs : Array Value) : ∀ (is : List Nat) (w : World), (∀ i, i ∈ is → ∃ x, ∀ w, (part 25 cs (i * 1)).run Try.prog w = .ok (.int .u32 x) w) →
    (Op.eqItems (d + 1) 25 1 cs cs is).run Try.prog w = .ok true w
  | [], w, _ => by simp [Op.eqItems]
  | i :: is, w, h => by
    obtain ⟨x, hx⟩ := h i (by simp)
    simp only [Op.eqItems, Sem.run_bind, hx, Result.andThen_ok, run_equalIn_int w d 25 .u32 .u32 x x Try.underlying25]
    rw [show (x == x) = true from beq_self_eq_true x]
    simp only [Bool.not_true, Bool.false_eq_true, if_false]
    exact eqItems_self d cs is w (fun j hj => h j (by simp [hj]))
theorem cells_u32 : Try.prog.cellsOf 25 = 1 := by kernel_rfl
theorem eq_self (v : V8) (w : World) : (Op.equalIn 10000 32 (.agg #[.int .u32 v.a, .int .u32 v.b, .int .u32 v.c, .int .u32 v.d, .int .u32 v.e, .int .u32 v.f, .int .u32 v.g, .int .u32 v.h]) (.agg #[.int .u32 v.a, .int .u32 v.b, .int .u32 v.c, .int .u32 v.d, .int .u32 v.e, .int .u32 v.f, .int .u32 v.g, .int .u32 v.h])).run Try.prog w = .ok true w := by
  obtain ⟨i0, hi, -⟩ := infoU
  rw [show (10000 : Nat) = 9999 + 1 from rfl, run_equalIn_array w 9999 _ _ Try.underlying32 hi, cells_u32]
  rw [show (9999 : Nat) = 9998 + 1 from rfl]
  refine eqItems_self 9998 _ _ w (fun i hi2 => ?_)
  have hlt : i < 8 := List.mem_range.1 hi2
  obtain ⟨x, hx⟩ : ∃ x, (#[.int .u32 v.a, .int .u32 v.b, .int .u32 v.c, .int .u32 v.d, .int .u32 v.e, .int .u32 v.f, .int .u32 v.g, .int .u32 v.h] : Array Value)[i]? = some (.int .u32 x) := by
    match i, hlt with
    | 0, _ => exact ⟨_, rfl⟩
    | 1, _ => exact ⟨_, rfl⟩
    | 2, _ => exact ⟨_, rfl⟩
    | 3, _ => exact ⟨_, rfl⟩
    | 4, _ => exact ⟨_, rfl⟩
    | 5, _ => exact ⟨_, rfl⟩
    | 6, _ => exact ⟨_, rfl⟩
    | 7, _ => exact ⟨_, rfl⟩
  refine ⟨x, fun w2 => ?_⟩
  rw [Nat.mul_one]
  simp [part, isAgg, run_underlying Try.underlying25, hx]
set_option maxHeartbeats 4000000 in
theorem ShaBlocks_walk (v : V8) (s : ByteArray) (hv : W32 v.e) (hm : s.size ≤ maxLen) (w : World) :
    Calls Try.prog 5 #[v.val, .string s] w fun e w' => e = .returned (.bool true) ∧ Below w.heap.size w w' := by
  unfold V8.val
  rw [V8.map v]
  by_cases hbig : 2000 < s.size
  · have hb : (2000 : Int) < (s.size : Int) := by omega
    go_enter Try.func5, Try.ntmps5
    go_wp2_with fail
    refine (awake_any _).mono ?_
    rintro e w5 ⟨rfl, hb5⟩
    go_wp2
    go_ret
    exact ⟨rfl, ((Below.refl _ w).alloc (Nat.le_refl _) _).trans (hb5.mono (by simp))⟩
  · have hb : ¬ (2000 : Int) < (s.size : Int) := by omega
    obtain ⟨R, hR⟩ : ∃ R, stepV v s = R := ⟨_, rfl⟩
    have HR := Lib.hid hR
    have HV := Lib.hid hv
    have HM := Lib.hid hm
    have r0 := Lib.hid (row_drew (row_new w (.cells #[.int .u32 v.a, .int .u32 v.b, .int .u32 v.c, .int .u32 v.d, .int .u32 v.e, .int .u32 v.f, .int .u32 v.g, .int .u32 v.h] 32)))
    have r5 := Lib.hid ((Below.refl _ w).alloc (Nat.le_refl _) (.cells #[.int .u32 v.a, .int .u32 v.b, .int .u32 v.c, .int .u32 v.d, .int .u32 v.e, .int .u32 v.f, .int .u32 v.g, .int .u32 v.h] 32)).drew
    clear hR hv hm hbig
    have heq := eq_self R
    go_enter Try.func5, Try.ntmps5
    go_wp2
    go_region_with (first
      | (go_at_call 17; refine (Block_x v R s _ HV.out HM.out HR.out).mono ?_; rintro e w1 ⟨rfl, hb1⟩; have r0 := Lib.hid (row_below r0.out hb1 (row_lt r0.out)); have r5 := Lib.hid (r5.out.trans (hb1.mono r5.out.size)); (obtain ⟨z0, z1, z2, z3, z4, z5, z6, z7⟩ := cell8 (u := v) (by rw [V8.map]; exact r0.out)); clear hb1)
      | (go_at_call 18; refine (Blocks_x v R s _ HV.out HM.out HR.out).mono ?_; rintro e w2 ⟨rfl, hb1⟩; have r0 := Lib.hid (row_below r0.out hb1 (row_lt r0.out)); have r5 := Lib.hid (r5.out.trans (hb1.mono r5.out.size)); (obtain ⟨z0, z1, z2, z3, z4, z5, z6, z7⟩ := cell8 (u := v) (by rw [V8.map]; exact r0.out)); clear hb1)
      | (go_at_call 12; refine (awake_any _).mono ?_; rintro e w3 ⟨rfl, hb1⟩; have r5 := Lib.hid (r5.out.trans (hb1.mono r5.out.size)); clear hb1))
    all_goals
      go_wp2
      go_ret
      exact ⟨rfl, r5.out⟩
theorem open8 {W : World} {base : Nat} {x : Value} {H : Type} {enc : TypeId × Value → H} {d : DataW H} {ps : List MemPlace} (hval : Value.okWide Try.prog W .any base 32 x)
    (hd : DataW.Trod enc Try.prog W 0 (fun _ => true) true 32 x d ps) : ∃ u : V8, x = u.val ∧ W32 u.e := by
  have hc8 : Try.prog.cellsOf 32 = 8 := by kernel_rfl
  simp only [Value.okWide, Try.underlying32] at hval
  obtain ⟨cs, rfl, hsz, -⟩ := hval
  rw [hc8] at hsz
  obtain ⟨c0, c1, c2, c3, c4, c5, c6, c7, rfl⟩ := eight cs hsz
  obtain ⟨fuel, hf⟩ := hd
  obtain ⟨xs, m, -, -, -, hxl, hall⟩ := DataW.trod_array Try.underlying32 hf
  rw [cells_u32] at hall
  have each : ∀ (i : Nat) (hi : i < 8) (c : Value), ([c0, c1, c2, c3, c4, c5, c6, c7].drop (i * 1)).take 1 = [c] → ∃ n, c = .int .u32 n ∧ W32 n := by
    intro i hi c hc
    have h := hall i hi
    have hcs : (Value.agg #[c0, c1, c2, c3, c4, c5, c6, c7]).cells.toList = [c0, c1, c2, c3, c4, c5, c6, c7] := rfl
    rw [hcs, hc] at h
    cases hx : xs[i]? with
    | none =>
      exact absurd (List.getElem?_eq_none_iff.1 hx) (by omega)
    | some y =>
      rw [hx] at h
      obtain ⟨n, e1, -, e3⟩ := DataW.trod_int Try.underlying25 h
      refine ⟨n, by simpa using e1, ?_⟩
      simp [Lit.wf, IntKind.min, IntKind.max, IntKind.signed, IntKind.bits] at e3
      unfold W32; omega
  obtain ⟨n0, rfl, g0⟩ := each 0 (by decide) c0 rfl
  obtain ⟨n1, rfl, g1⟩ := each 1 (by decide) c1 rfl
  obtain ⟨n2, rfl, g2⟩ := each 2 (by decide) c2 rfl
  obtain ⟨n3, rfl, g3⟩ := each 3 (by decide) c3 rfl
  obtain ⟨n4, rfl, g4⟩ := each 4 (by decide) c4 rfl
  obtain ⟨n5, rfl, g5⟩ := each 5 (by decide) c5 rfl
  obtain ⟨n6, rfl, g6⟩ := each 6 (by decide) c6 rfl
  obtain ⟨n7, rfl, g7⟩ := each 7 (by decide) c7 rfl
  exact ⟨⟨n0, n1, n2, n3, n4, n5, n6, n7⟩, by unfold V8.val; rw [V8.map], g4⟩
end Go.Proofs.Ytefjdbgmakddjaa
