/- Chapter 1's example. -/
import Derived.Test.YtioplkdmkdhnfaaRefDig2
namespace Go.Proofs.Ytioplkdmkdhnfaa
open Go.RowKit
open Dg
set_option linter.unusedVariables false
theorem Milli_125 (w : World) : Calls Try.prog 13 #[.string ⟨#[49, 46, 50, 53]⟩] w fun e w' => e = .returned (.tuple #[.int .i64 1250, .int .i64 0]) ∧ Below w.heap.size w w' := by
  refine (Milli_any ⟨#[49, 46, 50, 53]⟩ w (by decide)).mono ?_
  rintro e w' ⟨rfl, hb⟩
  exact ⟨ret_ii (by decide) (by decide), hb⟩
theorem Milli_150 (w : World) : Calls Try.prog 13 #[.string ⟨#[49, 46, 53, 48]⟩] w fun e w' => e = .returned (.tuple #[.int .i64 0, .int .i64 3]) ∧ Below w.heap.size w w' := by
  refine (Milli_any ⟨#[49, 46, 53, 48]⟩ w (by decide)).mono ?_
  rintro e w' ⟨rfl, hb⟩
  exact ⟨ret_ii (by decide) (by decide), hb⟩
theorem Text_120 (w : World) : Calls Try.prog 6 #[.int .i64 (-120)] w fun e w' => e = .returned (.string ⟨#[45, 49, 50, 48]⟩) ∧ Below w.heap.size w w' := by
  refine (Text_any (-120) w (by decide) (by decide)).mono ?_
  rintro e w' ⟨rfl, hb⟩
  have h : textL (-120) = [45, 49, 50, 48] := by
    unfold textL
    rw [if_pos (by decide), show Int.natAbs (-120) = 120 from rfl, dgw_big (by decide), dgw_big (by decide), dgw_small (by decide)]; rfl
  exact ⟨by rw [h], hb⟩
set_option maxHeartbeats 1000000 in
theorem awake_any (w : World) : Calls Try.prog 10 #[] w fun e w' => e = .returned (.bool true) ∧ Below w.heap.size w w' := by
  go_enter Try.func10, Try.ntmps10
  go_wp2_with fail
  refine (Milli_125 _).mono ?_
  rintro e w1 ⟨rfl, hb1⟩
  go_wp2_with fail
  refine (Milli_150 _).mono ?_
  rintro e w2 ⟨rfl, hb2⟩
  go_wp2_with fail
  refine (Text_120 _).mono ?_
  rintro e w3 ⟨rfl, hb3⟩
  go_wp2
  go_ret
  exact ⟨rfl, (hb1.trans (hb2.mono hb1.size)).trans (hb3.mono (hb1.trans (hb2.mono hb1.size)).size)⟩
end Go.Proofs.Ytioplkdmkdhnfaa
