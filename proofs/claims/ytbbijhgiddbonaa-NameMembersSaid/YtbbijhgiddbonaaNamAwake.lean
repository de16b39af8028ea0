/- The statements' example. -/
import Derived.Test.YtbbijhgiddbonaaNamWithout2
import Derived.Test.YtbbijhgiddbonaaNamNames
namespace Go.Proofs.Ytbbijhgiddbonaa
open Go.RowKit Go.Sort
open Nw Go.ChangeShapes Go.WideShapes
set_option linter.unusedVariables false

theorem sort_bab : sortL [[98], [97], [98]] = [[97], [98]] :=
  sortL_eq (by unfold Asc; simp; decide) fun x => by simp; intro h; exact .inr h

theorem nm_web_s : nm s1 s2 [119, 101, 98, 45, 49] = true := by decide +kernel
theorem nm_web_v : nm v1 v2 [119, 101, 98, 45, 49] = false := by decide +kernel
theorem at_b : atL [[97], [98]] [98] = 1 := atL_hit (k := 1) (by simp) rfl fun j hj h => by
  have : j = 0 := by omega
  subst this
  simp

set_option maxHeartbeats 4000000 in
theorem awake_any (w : World) : Calls Try.prog 6 #[] w fun e w' => e = .returned (.bool true) ∧ Below w.heap.size w w' := by
  have HS : Hid (∀ W : World, Below w.heap.size w W → W.heap.size = w.heap.size + 1 → W.cell? ⟨w.heap.size, 0, none⟩ = some (.string ⟨#[98]⟩) → W.cell? ⟨w.heap.size, 1, none⟩ = some (.string ⟨#[97]⟩) → W.cell? ⟨w.heap.size, 2, none⟩ = some (.string ⟨#[98]⟩) →
      Calls Try.prog 15 #[.slice (some ⟨w.heap.size, 0, none⟩) 3 3] W fun e w' => ∃ g cap, e = .returned (.slice (some ⟨g, 0, none⟩) 2 cap) ∧ g < w'.heap.size ∧ cap ≤ 9223372036854775807 ∧ Below w.heap.size w w' ∧ Rd w' (.slice (some ⟨g, 0, none⟩) 2 cap) [[97], [98]] ∧ w'.cell? ⟨g, 0, none⟩ = some (.string ⟨#[97]⟩)) := Lib.hid (by
    intro W hb hs h0 h1 h2
    have hr : Rd W (.slice (some ⟨w.heap.size, 0, none⟩) 3 3) [[98], [97], [98]] := ⟨_, 3, rfl, Nat.le_refl _, by unfold maxLen; omega, .inr ⟨w.heap.size, 0, rfl, by omega, fun j hj => by
      match j, hj with
      | 0, _ => exact h0
      | 1, _ => exact h1
      | 2, _ => exact h2⟩⟩
    refine (Sorted_own _ _ W hr (by simp)).mono ?_
    rintro e w' ⟨v, rfl, ho, hb'⟩
    rw [sort_bab] at ho
    obtain ⟨a, cap, rfl, _, hcap, _, hcells⟩ := owns_read ho
    rcases hcells with h0 | ⟨g, rfl, hcells⟩
    · cases h0
    · exact ⟨g, cap, rfl, (ho.lt g rfl).2, by unfold maxLen at hcap; omega, hb.trans (hb'.mono hb.size), rd_of_owns ho, hcells 0 (by simp)⟩)
  have HV : Hid (∀ W : World, Calls Try.prog 7 #[.string ⟨#[119, 101, 98, 45, 49]⟩] W fun e w' => e = .returned (.bool true) ∧ Below W.heap.size W w') := Lib.hid fun W => by
    have := Service_any ⟨#[119, 101, 98, 45, 49]⟩ W (by unfold maxLen; decide)
    rwa [show nm s1 s2 (⟨#[119, 101, 98, 45, 49]⟩ : ByteArray).data.toList = true from nm_web_s] at this
  have HU : Hid (∀ W : World, Calls Try.prog 8 #[.string ⟨#[119, 101, 98, 45, 49]⟩] W fun e w' => e = .returned (.bool false) ∧ Below W.heap.size W w') := Lib.hid fun W => by
    have := Variable_any ⟨#[119, 101, 98, 45, 49]⟩ W (by unfold maxLen; decide)
    rwa [show nm v1 v2 (⟨#[119, 101, 98, 45, 49]⟩ : ByteArray).data.toList = false from nm_web_v] at this
  have HA : Hid (∀ (v : Value) (W : World), Rd W v [[97], [98]] → Calls Try.prog 24 #[v, .string ⟨#[98]⟩] W fun e w' => e = .returned (.int .i64 1) ∧ W = w') := Lib.hid fun v W hr => by
    have := At_any v _ ⟨#[98]⟩ W hr
    rwa [show atL [[97], [98]] (⟨#[98]⟩ : ByteArray).data.toList = 1 from at_b] at this
  go_enter Try.func6, Try.ntmps6
  go_wp2_with (go_at_call 15; refine (HS.out _ ((Below.refl _ _).alloc (Nat.le_refl _) _) (by simp) (by simp) (by simp) (by simp)).mono ?_; rintro e w1 ⟨g, cap, rfl, hg, hcap, hbel, hrd, hcell⟩; have HB := Lib.hid hbel; have HR := Lib.hid hrd; have HG := Lib.hid hg; have HCell := Lib.hid hcell; clear hbel hrd hcell hg)
  go_wp2_with (go_at_call 7; refine (HV.out _).mono ?_; rintro e w2 ⟨rfl, hb2⟩; have HB2 : Hid (Below w.heap.size w w2) := Lib.hid (HB.out.trans (hb2.mono HB.out.size)); have HR2 := Lib.hid (HR.out.below hb2); have HC2 := Lib.hid ((hb2.cell (p := ⟨g, 0, none⟩) HG.out).trans HCell.out); have HG2 : Hid (g < w2.heap.size) := Lib.hid (Nat.lt_of_lt_of_le HG.out hb2.size); clear hb2)
  go_wp2_with (go_at_call 8; refine (HU.out _).mono ?_; rintro e w3 ⟨rfl, hb3⟩; have HB3 : Hid (Below w.heap.size w w3) := Lib.hid (HB2.out.trans (hb3.mono HB2.out.size)); have HR3 := HR2.out.below hb3; have hc3 := (hb3.cell (p := ⟨g, 0, none⟩) HG2.out).trans HC2.out; have hA := HA.out _ _ HR3; clear hb3 HR3)
  go_wp2_with (go_at_call 24; refine hA.mono ?_; rintro e w4 ⟨rfl, rfl⟩)
  go_ret
  exact ⟨rfl, HB3.out⟩

end Go.Proofs.Ytbbijhgiddbonaa
