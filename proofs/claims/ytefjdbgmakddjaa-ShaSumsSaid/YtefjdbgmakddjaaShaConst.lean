/- The contracts of Root for all arguments, of constants and of initial, of the program and of the document's own. -/
import Derived.Test.YtefjdbgmakddjaaRefRoot
import Derived.Test.YtefjdbgmakddjaaShaRoot
import Derived.Test.YtefjdbgmakddjaaRefPrime
import Derived.Test.YtefjdbgmakddjaaShaComp
namespace Go.Proofs.Ytefjdbgmakddjaa
open Go.RowKit
open Sh Ro Pr
set_option linter.unusedVariables false
set_option maxHeartbeats 1000000 in
theorem Root_out (p kind : Int) (w : World) (h : p < 1 ∨ 1000 < p ∨ (kind ≠ 2 ∧ kind ≠ 3)) :
    Calls Try.prog 10 #[.int .i64 p, .int .i64 kind] w fun e w' => e = .returned (.int .u32 0) ∧ w = w' := by
  by_cases h1 : p < 1
  · clear h
    go_enter Try.func10, Try.ntmps10
    go_wp2
    go_ret
    exact ⟨rfl, rfl⟩
  · by_cases h2 : 1000 < p
    · clear h
      go_enter Try.func10, Try.ntmps10
      go_wp2
      go_ret
      exact ⟨rfl, rfl⟩
    · have h3 : kind ≠ 2 ∧ kind ≠ 3 := by omega
      obtain ⟨h3, h4⟩ := h3
      have b3 : (kind == 2) = false := beq_f h3
      have b4 : (kind == 3) = false := beq_f h4
      have n3 : (kind != 2) = true := by simp [bne, b3]
      have n4 : (kind != 3) = true := by simp [bne, b4]
      clear h
      go_enter Try.func10, Try.ntmps10
      go_wp2
      go_ret
      exact ⟨rfl, rfl⟩
set_option maxHeartbeats 1000000 in
theorem RRoot_out (p kind : Int) (w : World) (h : p < 1 ∨ 1000 < p ∨ (kind ≠ 2 ∧ kind ≠ 3)) :
    Calls Try.prog 11 #[.int .i64 p, .int .i64 kind] w fun e w' => e = .returned (.int .u32 0) ∧ Below w.heap.size w w' := by
  by_cases h1 : p < 1
  · clear h
    go_enter Try.func11, Try.ntmps11
    go_wp2
    go_ret
    exact ⟨rfl, Below.refl _ _⟩
  · by_cases h2 : 1000 < p
    · clear h
      go_enter Try.func11, Try.ntmps11
      go_wp2
      go_ret
      exact ⟨rfl, Below.refl _ _⟩
    · have h3 : kind ≠ 2 ∧ kind ≠ 3 := by omega
      obtain ⟨h3, h4⟩ := h3
      have b3 : (kind == 2) = false := beq_f h3
      have b4 : (kind == 3) = false := beq_f h4
      have n3 : (kind != 2) = true := by simp [bne, b3]
      have n4 : (kind != 3) = true := by simp [bne, b4]
      clear h
      go_enter Try.func11, Try.ntmps11
      go_wp2
      go_ret
      exact ⟨rfl, Below.refl _ _⟩
theorem Root_any (p kind : Int) (w : World) :
    Calls Try.prog 10 #[.int .i64 p, .int .i64 kind] w fun e w' => e = .returned (.int .u32 (rootI p kind)) ∧ w = w' := by
  by_cases h : p < 1 ∨ 1000 < p ∨ (kind ≠ 2 ∧ kind ≠ 3)
  · rw [rootI_out h]; exact Root_out p kind w h
  · obtain ⟨q, rfl⟩ : ∃ q : Nat, p = (q : Int) := ⟨p.toNat, by omega⟩
    have hk : kind = 2 ∨ kind = 3 := by omega
    rcases hk with rfl | rfl
    · have := rootI_in (p := q) (k := 2) (by omega) (by omega) (.inl rfl)
      rw [show ((2 : Nat) : Int) = 2 from rfl] at this
      rw [this]; exact Root_2 q w (by omega) (by omega)
    · have := rootI_in (p := q) (k := 3) (by omega) (by omega) (.inr rfl)
      rw [show ((3 : Nat) : Int) = 3 from rfl] at this
      rw [this]; exact Root_3 q w (by omega) (by omega)
theorem RRoot_any (p kind : Int) (w : World) :
    Calls Try.prog 11 #[.int .i64 p, .int .i64 kind] w fun e w' => e = .returned (.int .u32 (rootI p kind)) ∧ Below w.heap.size w w' := by
  by_cases h : p < 1 ∨ 1000 < p ∨ (kind ≠ 2 ∧ kind ≠ 3)
  · rw [rootI_out h]; exact RRoot_out p kind w h
  · obtain ⟨q, rfl⟩ : ∃ q : Nat, p = (q : Int) := ⟨p.toNat, by omega⟩
    have hk : kind = 2 ∨ kind = 3 := by omega
    rcases hk with rfl | rfl
    · have := rootI_in (p := q) (k := 2) (by omega) (by omega) (.inl rfl)
      rw [show ((2 : Nat) : Int) = 2 from rfl] at this
      rw [this]; exact RRoot_2 q w (by omega) (by omega)
    · have := rootI_in (p := q) (k := 3) (by omega) (by omega) (.inr rfl)
      rw [show ((3 : Nat) : Int) = 3 from rfl] at this
      rw [this]; exact RRoot_3 q w (by omega) (by omega)
theorem rootI_w (p kind : Int) : W32 (rootI p kind) := by
  unfold rootI W32
  split
  · omega
  · omega
/-- The constant of round t; word t of the first state. -/
def kc (t : Nat) : Int := rootI (((primesL 64).getD t 0 : Nat) : Int) 3
def h0 (t : Nat) : Int := rootI (((primesL 8).getD t 0 : Nat) : Int) 2
theorem Root_q (p kind x : Int) (w : World) (h : rootI p kind = x) :
    Calls Try.prog 10 #[.int .i64 p, .int .i64 kind] w fun e w' => e = .returned (.int .u32 x) ∧ w = w' := by
  subst h; exact Root_any p kind w
theorem Primes_q (n : Int) (l : List Nat) (w : World) (h : primesL n = l) :
    Calls Try.prog 8 #[.int .i64 n] w fun e w' => ∃ v, e = .returned v ∧ RE encN w' v l ∧ Below w.heap.size w w' := by
  subst h; exact Primes_any n w
--LOOPS
set_option maxHeartbeats 4000000 in
theorem constants_any (w : World) :
    Calls Try.prog 30 #[] w fun e w' => (∃ d : Array Int, e = .returned (.agg (d.map encU)) ∧ d.size = 64 ∧ ∀ j, j < 64 → d[j]! = kc j) ∧ Below w.heap.size w w' := by
  obtain ⟨l, hl⟩ : ∃ l, primesL 64 = l := ⟨_, rfl⟩
  have hlen : l.length = 64 := by rw [← hl]; exact primesL_length (n := 64) (by decide)
  have HP := Lib.hid fun w0 => Primes_q 64 l w0 hl
  have HL := Lib.hid hl
  clear hl
  go_enter Try.func30, Try.ntmps30
  go_wp2_with fail
  refine (HP.out _).mono ?_
  rintro e w1 ⟨v, rfl, hv, hb1⟩
  have r0 : Hid (w1.heap[w.heap.size]? = some (.cells ((zeros 64).map encU) 49 (0, 0))) := Lib.hid (by rw [zeros_map]; exact row_below (row_alloc (row_new w _) _) hb1 (by simp; omega))
  have r1 : Hid (Arr w1 (w.heap.size + 1) 49 (zeros 64)) := Lib.hid (by unfold Arr; rw [zeros_map]; exact row_below (row_new1 w _ _) hb1 (by simp))
  have r5 := Lib.hid (Below.trans (((Below.refl _ w).alloc (Nat.le_refl _) _).alloc (by simp) _) (hb1.mono (by simp; omega)))
  obtain ⟨a, cap, rfl, hcap, hmx, hcells⟩ := hv
  rcases hcells with ⟨h0', -⟩ | ⟨b, rfl, hbl, hcs⟩
  · rw [h0'] at hlen; exact absurd hlen (by decide)
  have HCS := Lib.hid hcs
  rw [hlen] at hcap ⊢
  unfold maxLen at hmx
  clear hb1 hcs
  obtain ⟨w0, hw0⟩ : ∃ w0, w0 = w1 := ⟨_, rfl⟩
  have hbne : Hid (∀ wr : World, Below w0.heap.size w0 wr → b < wr.heap.size) := Lib.hid fun wr h => Nat.lt_of_lt_of_le (by rw [hw0]; exact hbl) h.size
  subst hw0
  go_wp2
  go_loopw [6] (fun si wr => ∃ t : Nat, ∃ d : Array Int, t ≤ 64 ∧ si = .int .i64 (t : Int) ∧ d.size = 64 ∧ (∀ j, j < t → d[j]! = kc j) ∧ wr.heap[w.heap.size]? = some (.cells ((zeros 64).map encU) 49 (0, 0)) ∧ Arr wr (w.heap.size + 1) 49 d ∧ Below w.heap.size w wr ∧ (∀ j (h : j < l.length), wr.cell? ⟨b, j, none⟩ = some (encN l[j]))) (fun si _ => 64 - (intOf si).toNat)
  case atStart => exact ⟨0, zeros 64, Nat.zero_le _, rfl, zeros_size 64, fun j hj => absurd hj (Nat.not_lt_zero _), r0.out, r1.out, r5.out, HCS.out⟩
  case round =>
    clear r0 r1 r5 HCS
    obtain ⟨t, d, ht, rfl, hd, hall, r0, r1, r5, hcs⟩ := hrel
    have R0 := Lib.hid r0
    have R1 := Lib.hid r1
    have R5 := Lib.hid r5
    have HA := Lib.hid hall
    have HCS := Lib.hid hcs
    clear r0 r1 r5 hall hcs
    by_cases hlt : t < 64
    · have hlt2 : t < l.length := by omega
      have hc : wr.cell? ⟨b, t, none⟩ = some (.int .i64 ((l[t]'hlt2 : Nat) : Int)) := HCS.out t hlt2
      have HX : Hid (rootI ((l[t]'hlt2 : Nat) : Int) 3 = kc t) := Lib.hid (by unfold kc; rw [HL.out, List.getD_eq_getElem?_getD, List.getElem?_eq_getElem hlt2]; rfl)
      obtain ⟨p, hp⟩ : ∃ p, l[t]'hlt2 = p := ⟨_, rfl⟩
      rw [hp] at hc HX
      obtain ⟨x, hx⟩ : ∃ x, kc t = x := ⟨_, rfl⟩
      have HX2 := Lib.hid hx
      rw [hx] at HX
      have HRt := Lib.hid (Root_q (p : Int) 3 x wr HX.out)
      have c1 := R1.out.cell t (by omega)
      have cf := R1.out.frozen t
      generalize d[t]! = y0 at c1
      clear hp hx hlt2
      have HNE : Hid (b ≠ w.heap.size + 1) := Lib.hid (by
        intro hb
        rw [hb] at hc
        rw [hc] at c1
        injection c1 with c1
        injection c1 with c1 c2
        cases c1)
      go_wp2_with (go_at_call 10; refine HRt.out.mono ?_; rintro e w2 ⟨rfl, rfl⟩)
      go_roundw
      case measure => simp [intOf]; omega
      case rel =>
        refine ⟨t + 1, d.setIfInBounds t x, by omega, by go_num, by simp [hd], fun j hj => ?_, row_other R0.out _ _ (by simp), R1.out.set t x, R5.out.setCell (by simp) _, fun j hj => ?_⟩
        · by_cases e : j = t
          · subst e; rw [get_set_same _ _ _ (by omega), HX2.out]
          · rw [get_set_other _ _ _ _ e]; exact HA.out j (by omega)
        · rw [World.cell?_setCell_other _ _ _ _ (by intro h; injection h with h1; exact HNE.out (by first | exact h1 | exact h1.symm))]
          exact HCS.out j hj
    · obtain rfl : t = 64 := by omega
      go_wp2_with (first | (refine wpList_load_row rfl 49 _ rfl (w.heap.size + 1) rfl 49 (d.map encU) (0, 0) _ R1.out Try.underlying49 rfl (by rw [Array.size_map, hd]; exact info64) ?_) | (refine wpList_store_row rfl 49 _ _ rfl w.heap.size (d.map encU) rfl rfl 49 _ R0.out (by rw [Array.size_map, hd]; exact info64) (by rw [Array.size_map, Array.size_map, hd]; exact zeros_size 64) (cells_one d) ?_))
      refine bodyPost_ret (results_cell_row rfl _ _ w.heap.size 49 (d.map encU) (0, 0) (.array 64 25) rfl (setRow_heap _ _ _ _ _ _ R0.out) Try.underlying49 rfl (by rw [Array.size_map, hd]; exact info64)) rfl ?_
      exact ⟨⟨d, rfl, hd, HA.out⟩, R5.out.setRow (Nat.le_refl _) _⟩
set_option maxHeartbeats 4000000 in
theorem initial_any (w : World) :
    Calls Try.prog 33 #[] w fun e w' => (∃ d : Array Int, e = .returned (.agg (d.map encU)) ∧ d.size = 8 ∧ ∀ j, j < 8 → d[j]! = h0 j) ∧ Below w.heap.size w w' := by
  obtain ⟨l, hl⟩ : ∃ l, primesL 8 = l := ⟨_, rfl⟩
  have hlen : l.length = 8 := by rw [← hl]; exact primesL_length (n := 8) (by decide)
  have HP := Lib.hid fun w0 => Primes_q 8 l w0 hl
  have HL := Lib.hid hl
  clear hl
  go_enter Try.func33, Try.ntmps33
  go_wp2_with fail
  refine (HP.out _).mono ?_
  rintro e w1 ⟨v, rfl, hv, hb1⟩
  have r0 : Hid (w1.heap[w.heap.size]? = some (.cells ((zeros 8).map encU) 32 (0, 0))) := Lib.hid (by rw [zeros_map]; exact row_below (row_alloc (row_new w _) _) hb1 (by simp; omega))
  have r1 : Hid (Arr w1 (w.heap.size + 1) 32 (zeros 8)) := Lib.hid (by unfold Arr; rw [zeros_map]; exact row_below (row_new1 w _ _) hb1 (by simp))
  have r5 := Lib.hid (Below.trans (((Below.refl _ w).alloc (Nat.le_refl _) _).alloc (by simp) _) (hb1.mono (by simp; omega)))
  obtain ⟨a, cap, rfl, hcap, hmx, hcells⟩ := hv
  rcases hcells with ⟨h0', -⟩ | ⟨b, rfl, hbl, hcs⟩
  · rw [h0'] at hlen; exact absurd hlen (by decide)
  have HCS := Lib.hid hcs
  rw [hlen] at hcap ⊢
  unfold maxLen at hmx
  clear hb1 hcs
  obtain ⟨w0, hw0⟩ : ∃ w0, w0 = w1 := ⟨_, rfl⟩
  have hbne : Hid (∀ wr : World, Below w0.heap.size w0 wr → b < wr.heap.size) := Lib.hid fun wr h => Nat.lt_of_lt_of_le (by rw [hw0]; exact hbl) h.size
  subst hw0
  go_wp2
  go_loopw [6] (fun si wr => ∃ t : Nat, ∃ d : Array Int, t ≤ 8 ∧ si = .int .i64 (t : Int) ∧ d.size = 8 ∧ (∀ j, j < t → d[j]! = h0 j) ∧ wr.heap[w.heap.size]? = some (.cells ((zeros 8).map encU) 32 (0, 0)) ∧ Arr wr (w.heap.size + 1) 32 d ∧ Below w.heap.size w wr ∧ (∀ j (h : j < l.length), wr.cell? ⟨b, j, none⟩ = some (encN l[j]))) (fun si _ => 8 - (intOf si).toNat)
  case atStart => exact ⟨0, zeros 8, Nat.zero_le _, rfl, zeros_size 8, fun j hj => absurd hj (Nat.not_lt_zero _), r0.out, r1.out, r5.out, HCS.out⟩
  case round =>
    clear r0 r1 r5 HCS
    obtain ⟨t, d, ht, rfl, hd, hall, r0, r1, r5, hcs⟩ := hrel
    have R0 := Lib.hid r0
    have R1 := Lib.hid r1
    have R5 := Lib.hid r5
    have HA := Lib.hid hall
    have HCS := Lib.hid hcs
    clear r0 r1 r5 hall hcs
    by_cases hlt : t < 8
    · have hlt2 : t < l.length := by omega
      have hc : wr.cell? ⟨b, t, none⟩ = some (.int .i64 ((l[t]'hlt2 : Nat) : Int)) := HCS.out t hlt2
      have HX : Hid (rootI ((l[t]'hlt2 : Nat) : Int) 2 = h0 t) := Lib.hid (by unfold h0; rw [HL.out, List.getD_eq_getElem?_getD, List.getElem?_eq_getElem hlt2]; rfl)
      obtain ⟨p, hp⟩ : ∃ p, l[t]'hlt2 = p := ⟨_, rfl⟩
      rw [hp] at hc HX
      obtain ⟨x, hx⟩ : ∃ x, h0 t = x := ⟨_, rfl⟩
      have HX2 := Lib.hid hx
      rw [hx] at HX
      have HRt := Lib.hid (Root_q (p : Int) 2 x wr HX.out)
      have c1 := R1.out.cell t (by omega)
      have cf := R1.out.frozen t
      generalize d[t]! = y0 at c1
      clear hp hx hlt2
      have HNE : Hid (b ≠ w.heap.size + 1) := Lib.hid (by
        intro hb
        rw [hb] at hc
        rw [hc] at c1
        injection c1 with c1
        injection c1 with c1 c2
        cases c1)
      go_wp2_with (go_at_call 10; refine HRt.out.mono ?_; rintro e w2 ⟨rfl, rfl⟩)
      go_roundw
      case measure => simp [intOf]; omega
      case rel =>
        refine ⟨t + 1, d.setIfInBounds t x, by omega, by go_num, by simp [hd], fun j hj => ?_, row_other R0.out _ _ (by simp), R1.out.set t x, R5.out.setCell (by simp) _, fun j hj => ?_⟩
        · by_cases e : j = t
          · subst e; rw [get_set_same _ _ _ (by omega), HX2.out]
          · rw [get_set_other _ _ _ _ e]; exact HA.out j (by omega)
        · rw [World.cell?_setCell_other _ _ _ _ (by intro h; injection h with h1; exact HNE.out (by first | exact h1 | exact h1.symm))]
          exact HCS.out j hj
    · obtain rfl : t = 8 := by omega
      go_wp2_with (first | (refine wpList_load_row rfl 32 _ rfl (w.heap.size + 1) rfl 32 (d.map encU) (0, 0) _ R1.out Try.underlying32 rfl (by rw [Array.size_map, hd]; exact info8) ?_) | (refine wpList_store_row rfl 32 _ _ rfl w.heap.size (d.map encU) rfl rfl 32 _ R0.out (by rw [Array.size_map, hd]; exact info8) (by rw [Array.size_map, Array.size_map, hd]; exact zeros_size 8) (cells_one d) ?_))
      refine bodyPost_ret (results_cell_row rfl _ _ w.heap.size 32 (d.map encU) (0, 0) (.array 8 25) rfl (setRow_heap _ _ _ _ _ _ R0.out) Try.underlying32 rfl (by rw [Array.size_map, hd]; exact info8)) rfl ?_
      exact ⟨⟨d, rfl, hd, HA.out⟩, R5.out.setRow (Nat.le_refl _) _⟩
end Go.Proofs.Ytefjdbgmakddjaa
