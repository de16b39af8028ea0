/- The contract of Without; the statements' example. -/
import Derived.Test.YtbbijhgiddbonaaNamWithout
namespace Go.Proofs.Ytbbijhgiddbonaa
open Go.RowKit Go.Sort
open Nw Go.ChangeShapes Go.WideShapes
set_option linter.unusedVariables false

theorem notIn_sortL (m : List L8) : notIn (sortL m) = notIn m := by
  funext x
  unfold notIn
  rw [decide_eq_decide.2 (mem_sortL (l := m) (x := x))]

set_option maxHeartbeats 4000000 in
theorem Without_own (v u : Value) (l m : List L8) (w : World) (h : Rd w v l) (hm : Rd w u m) (hbig : l.length ≤ 4398046511103) (hbig2 : m.length ≤ 4398046511103) :
    Calls Try.prog 19 #[v, u] w fun e w' => ∃ v', e = .returned v' ∧ w'.ownsRow w.heap.size 9 1 v' ((sortL l).filter (notIn m)).length (((sortL l).filter (notIn m)).map encStr) ∧ Below w.heap.size w w' := by
  have H1 := Lib.hid (Sorted_own u m w hm hbig2)
  have H2 : Hid (∀ (v1 : Value) (w1 W : World), w1.ownsRow w.heap.size 9 1 v1 (sortL m).length ((sortL m).map encStr) → Below w.heap.size w w1 → Below w1.heap.size w1 W → W.heap.size = w1.heap.size + 1 → W.cell? ⟨w1.heap.size, 0, none⟩ = some v1 →
      Calls Try.prog 15 #[v] W fun e w' => ∃ v2, e = .returned v2 ∧
        Calls Try.prog 39 #[v2, .func (.func 40) #[] #[.pointer (some ⟨w1.heap.size, 0, none⟩)]] w' fun e w3 => ∃ v', e = .returned v' ∧ w3.ownsRow w.heap.size 9 1 v' ((sortL l).filter (notIn m)).length (((sortL l).filter (notIn m)).map encStr) ∧ Below w.heap.size w w3) := Lib.hid (by
    intro v1 w1 W ho hb1 hbW hsz hcell
    have hb : Below w.heap.size w W := hb1.trans (hbW.mono hb1.size)
    refine (Sorted_own v l W (h.below hb) hbig).mono ?_
    rintro e w2 ⟨v2, rfl, ho2, hb2⟩
    refine ⟨v2, rfl, ?_⟩
    have hd := Delete_any v2 v1 (sortL l) (sortL m) (sortL_asc m) (Nat.le_trans (sortL_length_le m) hbig2) w1.heap.size W.heap.size w2 ho2 W rfl hb2 (by omega) hcell ((rd_of_owns ho).below hbW) (Nat.le_trans (sortL_length_le l) hbig)
    rw [notIn_sortL] at hd
    refine hd.mono ?_
    rintro e w3 ⟨v3, rfl, ho3, hb3⟩
    exact ⟨v3, rfl, owns_low ho3 hb.size, hb.trans ((hb2.trans hb3).mono hb.size)⟩)
  generalize (sortL l).filter (notIn m) = R at H2 ⊢
  generalize R.length = NR at H2 ⊢
  generalize R.map encStr = XR at H2 ⊢
  obtain ⟨a, cap, rfl, h1, h2, h3⟩ := h
  obtain ⟨a2, cap2, rfl, k1, k2, k3⟩ := hm
  clear h3 k3
  go_enter Try.func19, Try.ntmps19
  go_wp2_with (go_at_call 15; refine H1.out.mono ?_; rintro e w1 ⟨v1, rfl, hown, hbel⟩; have HO := Lib.hid hown; have HB := Lib.hid hbel; obtain ⟨a1, cap1, rfl, p1, p2, _, _⟩ := owns_read hown; clear hown hbel H1)
  have hs := H2.out _ w1 _ HO.out HB.out ((Below.refl _ _).alloc (Nat.le_refl _) (.cells #[.slice a1 (sortL m).length cap1] 24)) (by simp) (by simp)
  go_wp2_with (go_at_call 15; refine hs.mono ?_; rintro e w2 ⟨v2, rfl, hd⟩; clear hs)
  go_wp2_with (go_at_call 39; refine hd.mono ?_; rintro e w3 ⟨v3, rfl, hown3, hbel3⟩)
  go_ret
  exact ⟨_, rfl, hown3, hbel3⟩

end Go.Proofs.Ytbbijhgiddbonaa
