/- The chapter's example holds. -/
import Derived.Test.YtjhojedicehcfaaDoorRefSame
import Derived.KernelRfl
namespace Go.Proofs.YtjhojedicehcfaaDoor
open Go.RowKit Go.Sort
open Q6
set_option linter.unusedVariables false
theorem belowNext {w w1 w2 : World} (h : Below w.heap.size w w1) (g : Below w1.heap.size w1 w2) : Below w.heap.size w w2 := h.trans (g.mono h.size)
def exL : List Ln := [⟨1, 0, [97, 58]⟩, ⟨2, 2, [98, 58, 32, 39, 35, 39]⟩]
theorem ex_one : fileL [97, 58, 32, 32, 35, 32, 120, 10, 32, 32, 98, 58, 32, 39, 35, 39] = (exL, 0, 0) := by kernel_rfl
theorem ex_two : fileL [97, 10, 9, 98] = ([], 2, 3) := by kernel_rfl
theorem exL_len : exL.length = 2 := rfl
theorem exL_lit (w : World) : LR (w.alloc (.cells #[.int .i64 1, .int .i64 0, .string ⟨#[97, 58]⟩, .int .i64 2, .int .i64 2, .string ⟨#[98, 58, 32, 39, 35, 39]⟩] 36)) (.slice (some ⟨w.heap.size, 0, none⟩) 2 2) exL :=
  lr_of_owns (World.ownsRow_lit (base := w.heap.size) (size := 3) w #[.int .i64 1, .int .i64 0, .string ⟨#[97, 58]⟩, .int .i64 2, .int .i64 2, .string ⟨#[98, 58, 32, 39, 35, 39]⟩] 2 (Nat.le_refl _) (by decide) rfl)
set_option maxHeartbeats 4000000 in
theorem awake_any (w : World) (hw : SomeMax w) : Calls Tryd.prog 6 #[] w fun e w' => e = .returned (.bool true) ∧ Below w.heap.size w w' := by
  have HS1 := Lib.hid (Split_any ⟨#[97, 58, 32, 32, 35, 32, 120, 10, 32, 32, 98, 58, 32, 39, 35, 39]⟩ w hw (by decide) exL 0 0 ex_one)
  have HS2 := Lib.hid (fun w0 h0 => Split_any ⟨#[97, 10, 9, 98]⟩ w0 h0 (by decide) [] 2 3 ex_two)
  go_enter Tryd.func6, Tryd.ntmps6
  go_wp2_with fail
  refine HS1.out.mono ?_
  rintro e w1 ⟨v1, rfl, hl1, hb1⟩
  have HL1 := Lib.hid hl1
  have HB1 := Lib.hid hb1
  clear hl1 hb1
  go_wp2_with fail
  refine (HS2.out w1 (hw.keep HB1.out)).mono ?_
  rintro e w2 ⟨v2, rfl, hl2, hb2⟩
  have HL2 := Lib.hid (HL1.out.below hb2)
  have HB2 := Lib.hid (belowNext HB1.out hb2)
  clear hl2 hb2
  go_wp2_with fail
  refine (taken_any v1 exL w2 HL2.out (by rw [exL_len]; decide)).mono ?_
  rintro e w3 ⟨v3, rfl, hl3, hb3⟩
  have HL3 := Lib.hid hl3
  have HB3 := Lib.hid (belowNext HB2.out hb3)
  clear hl3 hb3
  go_wp2_with fail
  refine (Same_num v3 _ exL exL _ (HL3.out.below ((Below.refl _ _).alloc (Nat.le_refl _) _)) (exL_lit w3) rfl (by rw [exL_len]; decide) (fun k a b => ⟨rfl, rfl, rfl⟩)).mono ?_
  rintro e w4 ⟨rfl, hb4⟩
  have HB4 := Lib.hid (belowNext (HB3.out.alloc HB3.out.size _) hb4)
  clear hb4
  go_wp2
  go_ret
  exact ⟨rfl, HB4.out⟩
end Go.Proofs.YtjhojedicehcfaaDoor
