/- The contract of schedule: the words of a block's rounds. -/
import Derived.Test.YtefjdbgmakddjaaShaArr
namespace Go.Proofs.Ytefjdbgmakddjaa
open Go.RowKit
open Sh
set_option linter.unusedVariables false
theorem wrap_sm {n : Int} (h0 : -9223372036854775808 ≤ n) (h1 : n ≤ 9223372036854775807) : IntKind.i64.wrap n = n := by
  simp [IntKind.wrap, IntKind.bits, IntKind.signed]; omega
theorem word_q (s : ByteArray) (x : Int) (w : World) (hs : 4 ≤ s.size) (hx : be (gb s 0) (gb s 1) (gb s 2) (gb s 3) = x) :
    Calls Try.prog 49 #[.string s] w fun e w' => e = .returned (.int .u32 x) ∧ Below w.heap.size w w' := by
  subst hx; exact word_gb s w hs
theorem sig1_still (x : Int) (w : World) : Calls Try.prog 50 #[.int .u32 x] w fun e w' => e = .returned (.int .u32 (s1 x)) ∧ w' = w :=
  (smallSigma1_any x w).mono fun e w' ⟨h1, h2⟩ => ⟨h1, h2.symm⟩
theorem sig0_still (x : Int) (w : World) : Calls Try.prog 51 #[.int .u32 x] w fun e w' => e = .returned (.int .u32 (s0 x)) ∧ w' = w :=
  (smallSigma0_any x w).mono fun e w' ⟨h1, h2⟩ => ⟨h1, h2.symm⟩

set_option maxHeartbeats 4000000 in
theorem schedule_any (s : ByteArray) (w : World) (hs : 64 ≤ s.size) (hm : s.size ≤ maxLen) :
    Calls Try.prog 42 #[.string s] w fun e w' => (∃ d : Array Int, e = .returned (.agg (d.map encU)) ∧ d.size = 64 ∧ ∀ j, j < 64 → d[j]! = ws (wd s) j) ∧ Below w.heap.size w w' := by
  unfold maxLen at hm
  go_enter Try.func42, Try.ntmps42
  go_wp2
  go_loopw [6] (fun i wr => ∃ t : Nat, ∃ d : Array Int, t ≤ 16 ∧ i = .int .i64 (t : Int) ∧ d.size = 64 ∧ (∀ j, j < t → d[j]! = ws (wd s) j) ∧ Arr wr (w.heap.size + 1) 49 d ∧ wr.heap[w.heap.size]? = some (.cells ((zeros 64).map encU) 49 (0, 0)) ∧ Below w.heap.size w wr) (fun i _ => 16 - (intOf i).toNat)
  case atStart =>
    refine ⟨0, zeros 64, Nat.zero_le _, rfl, zeros_size 64, fun j hj => absurd hj (Nat.not_lt_zero _), ?_, ?_, ((Below.refl _ w).alloc (Nat.le_refl _) _).alloc (by simp) _⟩
    · unfold Arr; rw [zeros_map]; exact heap_alloc2_new w _ _
    · rw [zeros_map]; exact heap_alloc2_old w _ _
  case round =>
    obtain ⟨t, d, ht, rfl, hd, hall, harr, hres, hbel⟩ := hrel
    have HA := Lib.hid hall
    have HR := Lib.hid harr
    have HZ := Lib.hid hres
    have HB := Lib.hid hbel
    have hg : Hid (w.heap.size + 1 < wr.heap.size) := Lib.hid (by
      rcases Nat.lt_or_ge (w.heap.size + 1) wr.heap.size with h | h
      · exact h
      · rw [Arr, Array.getElem?_eq_none h] at harr; cases harr)
    clear hall harr hres hbel
    by_cases hlt : t < 16
    · have h4 : IntKind.i64.wrap (4 * (t : Int)) = 4 * (t : Int) := by exact wrap_sm (by omega) (by omega)
      have h4n : (4 * (t : Int)).toNat = 4 * t := by omega
      have hle : 4 * (t : Int) ≤ (s.size : Int) := by omega
      have hsz : 4 ≤ (s.extract (4 * t) s.size).size := by rw [ByteArray.size_extract]; omega
      obtain ⟨x, hx⟩ : ∃ x, wd s t = x := ⟨_, rfl⟩
      have HW := Lib.hid (word_q (s.extract (4 * t) s.size) x wr hsz ((wd_ext s t (by omega)).trans hx))
      have HX : Hid (ws (wd s) t = x) := Lib.hid ((ws_low _ hlt).trans hx)
      clear hx hsz
      go_wp2_with fail
      refine HW.out.mono ?_
      rintro e w1 ⟨rfl, hb1⟩
      have HR1 : Hid (Arr w1 (w.heap.size + 1) 49 d) := Lib.hid (row_below HR.out hb1 hg.out)
      have HZ1 := Lib.hid (row_below HZ.out hb1 (by have := hg.out; omega))
      have HB1 := Lib.hid (HB.out.trans (hb1.mono HB.out.size))
      have hc := HR1.out.cell t (by omega)
      have hf := HR1.out.frozen t
      clear hb1
      go_wp2
      go_roundw
      case measure => simp [intOf]; omega
      case rel =>
        refine ⟨t + 1, d.setIfInBounds t x, by omega, by go_num, by simp [hd], fun j hj => ?_, HR1.out.set t x, row_other HZ1.out _ _ (by simp), HB1.out.setCell (by simp) _⟩
        by_cases e : j = t
        · subst e; rw [get_set_same _ _ _ (by omega), HX.out]
        · rw [get_set_other _ _ _ _ e]; exact HA.out j (by omega)
    · obtain rfl : t = 16 := by omega
      obtain ⟨w0, hw0⟩ : ∃ w0, w0 = wr := ⟨_, rfl⟩
      subst hw0
      go_wp2
      go_loopw [5] (fun i wr => ∃ t : Nat, ∃ d : Array Int, 16 ≤ t ∧ t ≤ 64 ∧ i = .int .i64 (t : Int) ∧ d.size = 64 ∧ (∀ j, j < t → d[j]! = ws (wd s) j) ∧ Arr wr (w.heap.size + 1) 49 d ∧ wr.heap[w.heap.size]? = some (.cells ((zeros 64).map encU) 49 (0, 0)) ∧ Below w.heap.size w wr) (fun i _ => 64 - (intOf i).toNat)
      case atStart => exact ⟨16, d, Nat.le_refl _, by omega, rfl, hd, HA.out, HR.out, HZ.out, HB.out⟩
      case round =>
        clear HA HR HZ HB hg hd
        obtain ⟨t, d, ht1, ht, rfl, hd, hall, harr, hres, hbel⟩ := hrel
        have HA := Lib.hid hall
        have HR := Lib.hid harr
        have HZ := Lib.hid hres
        have HB := Lib.hid hbel
        clear hall harr hres hbel
        by_cases hlt : t < 64
        · have HX : Hid (ws (wd s) t = (s1 d[t - 2]! + d[t - 7]! + s0 d[t - 15]! + d[t - 16]!) % 4294967296) := Lib.hid (by
            rw [ws_high _ ht1, HA.out (t - 2) (by omega), HA.out (t - 7) (by omega), HA.out (t - 15) (by omega), HA.out (t - 16) (by omega)])
          have c2 := HR.out.cell (t - 2) (by omega)
          have c7 := HR.out.cell (t - 7) (by omega)
          have c15 := HR.out.cell (t - 15) (by omega)
          have c16 := HR.out.cell (t - 16) (by omega)
          have c0 := HR.out.cell t (by omega)
          have hf := HR.out.frozen t
          have w2 : IntKind.i64.wrap ((t : Int) - 2) = (t : Int) - 2 := by exact wrap_sm (by omega) (by omega)
          have w7 : IntKind.i64.wrap ((t : Int) - 7) = (t : Int) - 7 := by exact wrap_sm (by omega) (by omega)
          have w15 : IntKind.i64.wrap ((t : Int) - 15) = (t : Int) - 15 := by exact wrap_sm (by omega) (by omega)
          have w16 : IntKind.i64.wrap ((t : Int) - 16) = (t : Int) - 16 := by exact wrap_sm (by omega) (by omega)
          have n2 : ((t : Int) - 2).toNat = t - 2 := by omega
          have n7 : ((t : Int) - 7).toNat = t - 7 := by omega
          have n15 : ((t : Int) - 15).toNat = t - 15 := by omega
          have n16 : ((t : Int) - 16).toNat = t - 16 := by omega
          have p2 : (2 : Int) ≤ (t : Int) := by omega
          have q2 : (t : Int) - 2 < 64 := by omega
          have p7 : (7 : Int) ≤ (t : Int) := by omega
          have q7 : (t : Int) - 7 < 64 := by omega
          have p15 : (15 : Int) ≤ (t : Int) := by omega
          have q15 : (t : Int) - 15 < 64 := by omega
          have p16 : (16 : Int) ≤ (t : Int) := by omega
          have q16 : (t : Int) - 16 < 64 := by omega
          generalize d[t - 2]! = y2 at c2 HX
          generalize d[t - 7]! = y7 at c7 HX
          generalize d[t - 15]! = y15 at c15 HX
          generalize d[t - 16]! = y16 at c16 HX
          generalize d[t]! = y0 at c0
          go_wp2
          refine region_tail 23 (by kernel_rfl) (by kernel_rfl) ?_
          intro w9 hw9
          simp only [List.take_succ_cons, List.take_zero, List.drop_succ_cons, List.drop_zero]
          replace c2 : w9.cell? ⟨w.heap.size + 1, t - 2, none⟩ = some (.int .u32 y2) := by rw [hw9]; exact c2
          replace c7 : w9.cell? ⟨w.heap.size + 1, t - 7, none⟩ = some (.int .u32 y7) := by rw [hw9]; exact c7
          replace c15 : w9.cell? ⟨w.heap.size + 1, t - 15, none⟩ = some (.int .u32 y15) := by rw [hw9]; exact c15
          replace c16 : w9.cell? ⟨w.heap.size + 1, t - 16, none⟩ = some (.int .u32 y16) := by rw [hw9]; exact c16
          replace c0 : w9.cell? ⟨w.heap.size + 1, t, none⟩ = some (.int .u32 y0) := by rw [hw9]; exact c0
          replace hf : w9.frozen? ⟨w.heap.size + 1, t, none⟩ = false := by rw [hw9]; exact hf
          have HR9 : Hid (Arr w9 (w.heap.size + 1) 49 d) := Lib.hid (by rw [hw9]; exact HR.out)
          have HZ9 : Hid (w9.heap[w.heap.size]? = some (.cells ((zeros 64).map encU) 49 (0, 0))) := Lib.hid (by rw [hw9]; exact HZ.out)
          have HB9 : Hid (Below w.heap.size w w9) := Lib.hid (by rw [hw9]; exact HB.out.drew)
          clear hw9
          repeat still_step
          still_call (sig1_still y2 w9)
          repeat still_step
          still_call (sig0_still y15 w9)
          repeat still_step
          refine wpStill_nil ?_
          go_wp2
          refine ⟨?_, by simp [intOf]; omega⟩
          repeat apply Exists.intro
          refine ⟨⟨t + 1, d.setIfInBounds t ((s1 y2 + y7 + s0 y15 + y16) % 4294967296), by omega, by omega, ?_, ?_, fun j hj => ?_, HR9.out.set t _, row_other HZ9.out _ _ (by simp), HB9.out.setCell (by simp) _⟩, rfl⟩
          · go_num
          · simp [hd]
          · by_cases e : j = t
            · subst e; rw [get_set_same _ _ _ (by omega), HX.out]
            · rw [get_set_other _ _ _ _ e]; exact HA.out j (by omega)
        · obtain rfl : t = 64 := by omega
          go_wp2_with (first | (refine wpList_load_row rfl 49 _ rfl (w.heap.size + 1) rfl 49 (d.map encU) (0, 0) _ HR.out Try.underlying49 rfl (by rw [Array.size_map, hd]; exact info64) ?_) | (refine wpList_store_row rfl 49 _ _ rfl w.heap.size (d.map encU) rfl rfl 49 _ HZ.out (by rw [Array.size_map, hd]; exact info64) (by rw [Array.size_map, Array.size_map, hd]; rfl) (cells_one d) ?_))
          refine bodyPost_ret (results_cell_row rfl _ _ w.heap.size 49 (d.map encU) (0, 0) (.array 64 25) rfl (setRow_heap _ _ _ _ _ _ HZ.out) Try.underlying49 rfl (by rw [Array.size_map, hd]; exact info64)) rfl ?_
          exact ⟨⟨d, rfl, hd, HA.out⟩, HB.out.setRow (Nat.le_refl _) _⟩
end Go.Proofs.Ytefjdbgmakddjaa
