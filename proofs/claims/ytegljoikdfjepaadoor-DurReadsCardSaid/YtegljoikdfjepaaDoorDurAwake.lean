/- Chapter 3's example. -/
import Derived.Test.YtegljoikdfjepaaDoorDurParse
import Derived.Test.YtegljoikdfjepaaDoorDurText
namespace Go.Proofs.YtegljoikdfjepaaDoor
open Go.RowKit
open Dg
set_option linter.unusedVariables false
theorem durT_90000 : durT 90000 = [49, 109, 51, 48, 115] := by
  unfold durT
  rw [if_neg (by decide)]
  have e1 : pt (90000 / 3600000) [104] = [] := rfl
  have e2 : pt (90000 % 3600000 / 60000) [109] = [49, 109] := by
    rw [pt_pos (by decide), show 90000 % 3600000 / 60000 = 1 from rfl, dgw_small (by decide)]; rfl
  have e3 : pt (90000 % 60000 / 1000) [115] = [51, 48, 115] := by
    rw [pt_pos (by decide), show 90000 % 60000 / 1000 = 30 from rfl, dgw_big (by decide), dgw_small (by decide)]; rfl
  have e4 : pt (90000 % 1000) [109, 115] = [] := rfl
  rw [e1, e2, e3, e4]; rfl
theorem dur_90000 : durN [49, 109, 51, 48, 115] = 90000 ∧ durE [49, 109, 51, 48, 115] = 0 := by
  rw [← durT_90000]
  unfold durN durE
  rw [durP_durT]
  exact ⟨rfl, rfl⟩
theorem dur_bad : durN [49, 115, 49, 109] = 0 ∧ durE [49, 115, 49, 109] = 3 := by
  have h : durP [49, 115, 49, 109] = none := by
    unfold durP
    rw [if_neg (by decide), run_go (by decide) (by decide)]
    have e1 : uS (tlD [49, 115, 49, 109]) = 1000 := by decide
    have e2 : uR (tlD [49, 115, 49, 109]) = [49, 109] := by decide
    rw [e1, e2]
    exact run_no (by decide) (by decide)
  unfold durN durE
  rw [h]
  exact ⟨rfl, rfl⟩
theorem Parse_good (w : World) : Calls Tryd.prog 7 #[.string ⟨#[49, 109, 51, 48, 115]⟩] w fun e w' => e = .returned (.tuple #[.int .i64 90000, .int .i64 0]) ∧ Below w.heap.size w w' :=
  (DParse_any ⟨#[49, 109, 51, 48, 115]⟩ w (by decide)).mono fun e w' ⟨h1, h2⟩ => ⟨h1.trans (ret_ii dur_90000.1 dur_90000.2), h2⟩
theorem Parse_bad (w : World) : Calls Tryd.prog 7 #[.string ⟨#[49, 115, 49, 109]⟩] w fun e w' => e = .returned (.tuple #[.int .i64 0, .int .i64 3]) ∧ Below w.heap.size w w' :=
  (DParse_any ⟨#[49, 115, 49, 109]⟩ w (by decide)).mono fun e w' ⟨h1, h2⟩ => ⟨h1.trans (ret_ii dur_bad.1 dur_bad.2), h2⟩
theorem Text_90000 (w : World) : Calls Tryd.prog 9 #[.int .i64 90000] w fun e w' => e = .returned (.string ⟨#[49, 109, 51, 48, 115]⟩) ∧ Below w.heap.size w w' :=
  (DText_any 90000 w (by decide) (by decide)).mono fun e w' ⟨h1, h2⟩ => ⟨h1.trans (ret_str (by
    have : durTL 90000 = [49, 109, 51, 48, 115] := (durTL_in (m := 90000) (by decide)).trans durT_90000
    rw [this])), h2⟩
theorem belowNext {w w1 w2 : World} (h : Below w.heap.size w w1) (g : Below w1.heap.size w1 w2) : Below w.heap.size w w2 := h.trans (g.mono h.size)
set_option maxHeartbeats 1000000 in
theorem dawake_any (w : World) : Calls Tryd.prog 6 #[] w fun e w' => e = .returned (.bool true) ∧ Below w.heap.size w w' := by
  go_enter Tryd.func6, Tryd.ntmps6
  go_wp2_with fail
  refine (Parse_good _).mono ?_
  rintro e w1 ⟨rfl, hb1⟩
  go_wp2_with fail
  refine (Parse_bad _).mono ?_
  rintro e w2 ⟨rfl, hb2⟩
  go_wp2_with fail
  refine (Text_90000 _).mono ?_
  rintro e w3 ⟨rfl, hb3⟩
  go_wp2
  go_ret
  exact ⟨rfl, belowNext (belowNext hb1 hb2) hb3⟩
end Go.Proofs.YtegljoikdfjepaaDoor
