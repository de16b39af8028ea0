/- The contract of one round. -/
import Derived.Test.YtefjdbgmakddjaaShaLeaf
import Derived.Test.YtefjdbgmakddjaaShaRd
import Derived.Deep.WholeRow
import Derived.Laws.Rows
import Derived.Laws.Tables
namespace Go.Proofs.Ytefjdbgmakddjaa
open Go.RowKit
open Sh
set_option linter.unusedVariables false
theorem eight (c : Array Value) (hc : c.size = 8) : ∃ c0 c1 c2 c3 c4 c5 c6 c7, c = #[c0, c1, c2, c3, c4, c5, c6, c7] := by
  obtain ⟨l⟩ := c
  match l, hc with
  | [c0, c1, c2, c3, c4, c5, c6, c7], _ => exact ⟨c0, c1, c2, c3, c4, c5, c6, c7, rfl⟩
theorem set8 (c0 c1 c2 c3 c4 c5 c6 c7 v0 v1 v2 v3 v4 v5 v6 v7 : Value) : ((((((((#[c0, c1, c2, c3, c4, c5, c6, c7].setIfInBounds 0 v0).setIfInBounds 1 v1).setIfInBounds 2 v2).setIfInBounds 3 v3).setIfInBounds 4 v4).setIfInBounds 5 v5).setIfInBounds 6 v6).setIfInBounds 7 v7) = #[v0, v1, v2, v3, v4, v5, v6, v7] := by
  simp
theorem row8 {w : World} {g : Nat} {t : TypeId} {c : Array Value} (hc : c.size = 8) (hg : w.heap[g]? = some (.cells c t (0, 0))) (v0 v1 v2 v3 v4 v5 v6 v7 : Value) :
    ((((((((w.setCell ⟨g, 0, none⟩ v0).setCell ⟨g, 1, none⟩ v1).setCell ⟨g, 2, none⟩ v2).setCell ⟨g, 3, none⟩ v3).setCell ⟨g, 4, none⟩ v4).setCell ⟨g, 5, none⟩ v5).setCell ⟨g, 6, none⟩ v6).setCell ⟨g, 7, none⟩ v7).heap[g]? = some (.cells #[v0, v1, v2, v3, v4, v5, v6, v7] t (0, 0)) := by
  obtain ⟨c0, c1, c2, c3, c4, c5, c6, c7, rfl⟩ := eight c hc
  have h := heap_setCell_same _ g 7 _ t v7 (heap_setCell_same _ g 6 _ t v6 (heap_setCell_same _ g 5 _ t v5 (heap_setCell_same _ g 4 _ t v4 (heap_setCell_same _ g 3 _ t v3 (heap_setCell_same _ g 2 _ t v2 (heap_setCell_same _ g 1 _ t v1 (heap_setCell_same w g 0 _ t v0 hg)))))))
  rw [set8] at h
  exact h
theorem below8 {B g : Nat} {a w : World} (h : Below B a w) (hg : B ≤ g) (v0 v1 v2 v3 v4 v5 v6 v7 : Value) :
    Below B a ((((((((w.setCell ⟨g, 0, none⟩ v0).setCell ⟨g, 1, none⟩ v1).setCell ⟨g, 2, none⟩ v2).setCell ⟨g, 3, none⟩ v3).setCell ⟨g, 4, none⟩ v4).setCell ⟨g, 5, none⟩ v5).setCell ⟨g, 6, none⟩ v6).setCell ⟨g, 7, none⟩ v7) :=
  (((((((h.setCell hg _).setCell hg _).setCell hg _).setCell hg _).setCell hg _).setCell hg _).setCell hg _).setCell hg _
theorem row_drewN {w : World} {g : Nat} {o : Option Obj} (h : w.heap[g]? = o) (n : Nat) : (w.drewN n).heap[g]? = o := h
set_option maxHeartbeats 2000000 in
theorem round_any (a b c d e f g h s : Int) (w : World) (he : W32 e) :
    Calls Try.prog 43 #[.agg #[.int .u32 a, .int .u32 b, .int .u32 c, .int .u32 d, .int .u32 e, .int .u32 f, .int .u32 g, .int .u32 h], .int .u32 s] w fun ee w' => ee = .returned (.agg #[.int .u32 ((h + S1 e + ch e f g + s + (S0 a + maj a b c)) % 4294967296), .int .u32 a, .int .u32 b, .int .u32 c, .int .u32 ((d + (h + S1 e + ch e f g + s)) % 4294967296), .int .u32 e, .int .u32 f, .int .u32 g]) ∧ Below w.heap.size w w' := by
  have HE := Lib.hid he
  clear he
  go_enter Try.func43, Try.ntmps43
  go_wp2
  go_quiet (fail)
  go_wp2_with fail
  refine (bigSigma1_any e _).mono ?_
  rintro ee w1 ⟨rfl, rfl⟩
  go_wp2_with fail
  refine (choice_any e f g _ HE.out).mono ?_
  rintro ee w1 ⟨rfl, rfl⟩
  go_wp2_with fail
  refine (bigSigma0_any a _).mono ?_
  rintro ee w1 ⟨rfl, rfl⟩
  go_wp2_with fail
  refine (majority_any a b c _).mono ?_
  rintro ee w1 ⟨rfl, rfl⟩
  go_wp2
  generalize (h + S1 e + ch e f g + s + (S0 a + maj a b c)) % 4294967296 = x1
  generalize (d + (h + S1 e + ch e f g + s)) % 4294967296 = x5
  refine bodyPost_ret (results_cell_row rfl _ _ (w.heap.size + 1) 32 #[.int .u32 x1, .int .u32 a, .int .u32 b, .int .u32 c, .int .u32 x5, .int .u32 e, .int .u32 f, .int .u32 g] (0, 0) (.array 8 25) rfl ?_ Try.underlying32 rfl (by kernel_rfl)) rfl ?_
  · exact row8 rfl (row_drewN (heap_alloc2_new w _ _) nq) _ _ _ _ _ _ _ _
  · refine ⟨rfl, ?_⟩
    have b0 := (((Below.refl _ w).alloc (Nat.le_refl _) (.cells #[.int .u32 a, .int .u32 b, .int .u32 c, .int .u32 d, .int .u32 e, .int .u32 f, .int .u32 g, .int .u32 h] 32)).alloc (by simp) (.cells #[.int .u32 0, .int .u32 0, .int .u32 0, .int .u32 0, .int .u32 0, .int .u32 0, .int .u32 0, .int .u32 0] 32))
    exact below8 (Below.trans b0 ((belowN _ nq).mono (by simp; omega))) (by omega) _ _ _ _ _ _ _ _
end Go.Proofs.Ytefjdbgmakddjaa
