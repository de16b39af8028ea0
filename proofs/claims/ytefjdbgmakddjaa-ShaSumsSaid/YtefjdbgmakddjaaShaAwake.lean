/- The statement's 'awake': the first constant, and one prime. -/
import Derived.Test.YtefjdbgmakddjaaShaHex
namespace Go.Proofs.Ytefjdbgmakddjaa
open Go.RowKit
open Sh Ro Pr
set_option linter.unusedVariables false
theorem root_23 : rootI 2 3 = 1116352408 := by
  have h := rootI_in (p := 2) (k := 3) (by decide) (by decide) (.inr rfl)
  have e : rootN 3 2 = 5411319704 := rootN_of (by decide) ⟨by unfold pw top; decide, by unfold pw top; decide⟩
  rw [e] at h
  exact h
theorem root_22 : rootI 2 2 = 1779033703 := by
  have h := rootI_in (p := 2) (k := 2) (by decide) (by decide) (.inl rfl)
  have e : rootN 2 2 = 6074000999 := rootN_of (by decide) ⟨by unfold pw top; decide, by unfold pw top; decide⟩
  rw [e] at h
  exact h
theorem primes_3 : primesL 3 = [2, 3, 5] := by unfold primesL; rw [if_neg (by omega)]; rfl
theorem hex_15 : hexL [15] = [48, 102] := rfl
theorem Hex_q (s q : ByteArray) (w : World) (hs : s.size ≤ 4000) (hq : hexL s.data.toList = q.data.toList) :
    Calls Try.prog 15 #[.string s] w fun e w' => e = .returned (.string q) ∧ Below w.heap.size w w' :=
  (Hex_any s w hs).mono fun e w' ⟨h1, h2⟩ => ⟨by rw [h1, hq], h2⟩
theorem below_next {w w1 w2 : World} (h : Below w.heap.size w w1) (g : Below w1.heap.size w1 w2) : Below w.heap.size w w2 := h.trans (g.mono h.size)
theorem re_235 (w : World) : RE encN (w.alloc (.cells #[.int .i64 2, .int .i64 3, .int .i64 5] 3)) (.slice (some ⟨w.heap.size, 0, none⟩) 3 3) [2, 3, 5] := by
  refine ⟨some ⟨w.heap.size, 0, none⟩, 3, rfl, Nat.le_refl _, by unfold maxLen; decide, .inr ⟨w.heap.size, rfl, by simp, fun j hj => ?_⟩⟩
  rw [cell_of_row _ _ j _ _ (0, 0) (row_new w _)]
  have hj' : j < 3 := hj
  match j, hj' with
  | 0, _ => rfl
  | 1, _ => rfl
  | 2, _ => rfl
set_option maxHeartbeats 2000000 in
theorem awake_any (w : World) : Calls Try.prog 12 #[] w fun e w' => e = .returned (.bool true) ∧ Below w.heap.size w w' := by
  go_enter Try.func12, Try.ntmps12
  go_wp2_with fail
  refine (Root_q 2 3 1116352408 _ root_23).mono ?_
  rintro e w1 ⟨rfl, rfl⟩
  go_wp2_with fail
  refine (Root_q 2 2 1779033703 _ root_22).mono ?_
  rintro e w1 ⟨rfl, rfl⟩
  go_wp2_with fail
  refine (Primes_q 3 [2, 3, 5] _ primes_3).mono ?_
  rintro e w1 ⟨v, rfl, hv, hb1⟩
  have HV := Lib.hid hv
  clear hv
  go_wp2_with fail
  refine (same_any v _ [2, 3, 5] [2, 3, 5] _ (HV.out.below ((Below.refl _ _).alloc (Nat.le_refl _) _)) (re_235 w1)).mono ?_
  rintro e w2 ⟨rfl, hb2⟩
  have b2 := below_next (hb1.alloc hb1.size _) hb2
  clear hb1 hb2
  go_wp2_with fail
  refine (Hex_q ⟨#[15]⟩ ⟨#[48, 102]⟩ _ (by decide) hex_15).mono ?_
  rintro e w3 ⟨rfl, hb3⟩
  have b3 := below_next b2 hb3
  clear b2 hb3
  go_wp2
  go_ret
  exact ⟨rfl, b3⟩
end Go.Proofs.Ytefjdbgmakddjaa
