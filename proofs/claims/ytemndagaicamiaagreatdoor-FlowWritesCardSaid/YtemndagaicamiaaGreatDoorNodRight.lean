/- The contract of the program's Right at any node of the right form that is not too great. -/
import Derived.Test.YtemndagaicamiaaGreatDoorNodForm
import Derived.Test.YtemndagaicamiaaGreatDoorMergeM
namespace Go.Proofs.YtemndagaicamiaaGreatDoor
open Go.RowKit Go.Sort
open Nw N8 Q6 F9
set_option linter.unusedVariables false
set_option maxHeartbeats 4000000 in
theorem isWithin_no (d : Nd) (hf : Fine d) (hc : cntT d ≤ 2001) (hn : ¬ (cntT d ≤ 2000 ∧ depT d ≤ 12)) (c0 c1 c2 c3 : Value) (w : World) (hd : NdW w d c0 c1 c2 c3) :
    Calls Tryz.prog 20 #[.agg #[c0, c1, c2, c3], .int .i64 2000, .int .i64 12] w fun e w' => e = .returned (.bool false) ∧ Below w.heap.size w w' := by
  have HB0 := Lib.hid (Boxed.make hd)
  have HM := Lib.hid (measure_any (cntT d) d (Nat.le_refl _) 2001 (by omega) (by omega) c0 c1 c2 c3 _ HB0.out.2.2)
  obtain ⟨x0, x1, x2, x3⟩ := HB0.out.2.1.cells
  obtain ⟨C, hC⟩ : ∃ C, (cntT d : Int) = C := ⟨_, rfl⟩
  obtain ⟨D, hD⟩ : ∃ D, (depT d : Int) = D := ⟨_, rfl⟩
  rw [hC, hD] at HM
  have hn2 : ¬ C ≤ 2000 ∨ (C ≤ 2000 ∧ ¬ D ≤ 12) := by omega
  clear hd hf hc hn hC hD
  rcases hn2 with h1 | ⟨h1, h2⟩
  · go_enter Tryz.func20, Tryz.ntmps20
    go_wp2_with fail
    refine HM.out.mono ?_
    rintro e w2 ⟨rfl, hb2⟩
    go_wp2
    go_ret
    exact ⟨rfl, (HB0.out.go hb2).1⟩
  · go_enter Tryz.func20, Tryz.ntmps20
    go_wp2_with fail
    refine HM.out.mono ?_
    rintro e w2 ⟨rfl, hb2⟩
    go_wp2
    go_ret
    exact ⟨rfl, (HB0.out.go hb2).1⟩
set_option maxHeartbeats 4000000 in
theorem Right_gen (d : Nd) (hf : Fine d) (hc : cntT d ≤ 2001) (r : Bool) (hr : okT 2000 d = r) (c0 c1 c2 c3 : Value) (w : World) (hd : NdW w d c0 c1 c2 c3) :
    Calls Tryz.prog 14 #[.agg #[c0, c1, c2, c3]] w fun e w' => e = .returned (.bool r) ∧ Below w.heap.size w w' := by
  cases r with
  | true =>
    obtain ⟨-, h1, h2⟩ := (ok_iff (most := 2000)).1 hr
    exact Right_any d hf h1 h2 c0 c1 c2 c3 w hd
  | false =>
    have hn : ¬ (cntT d ≤ 2000 ∧ depT d ≤ 12) := fun h => by
      have : okT 2000 d = true := (ok_iff (most := 2000)).2 ⟨hf, h.1, h.2⟩
      rw [this] at hr; cases hr
    have HB0 := Lib.hid (Boxed.make hd)
    have HM := Lib.hid (isWithin_no d hf hc hn c0 c1 c2 c3 _ HB0.out.2.2)
    obtain ⟨x0, x1, x2, x3⟩ := HB0.out.2.1.cells
    clear hd hf hc hn hr
    go_enter Tryz.func14, Tryz.ntmps14
    go_wp2_with (go_at_call 20; refine HM.out.mono ?_; rintro e w2 ⟨rfl, hb2⟩)
    go_ret
    exact ⟨rfl, (HB0.out.go hb2).1⟩
end Go.Proofs.YtemndagaicamiaaGreatDoor
