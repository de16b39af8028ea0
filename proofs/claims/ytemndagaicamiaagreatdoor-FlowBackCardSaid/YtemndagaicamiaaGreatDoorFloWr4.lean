/- The contract of the program's Write. -/
import Derived.Test.YtemndagaicamiaaGreatDoorFloWr3
namespace Go.Proofs.YtemndagaicamiaaGreatDoor
open Go.RowKit Go.Sort
open Nw N8 Q6 F9 Go.ChangeShapes Go.WideShapes
set_option linter.unusedVariables false
theorem AF_any (N : Nat) : AFof N := by
  induction N with
  | zero => intro d h; have := cntT_pos d; omega
  | succ N ih =>
    intro d hN hf l n base v c0 c1 c2 c3 w ho hb hd hs
    cases d with
    | mk k t ks ds =>
      rw [cntT] at hN
      obtain ⟨⟨h0, h3⟩, -, -, -, hdd⟩ := fine_in hf
      by_cases hk : k = 0 ∨ k = 1
      · exact AF_leaf k t ks ds hk l n base v c0 c1 c2 c3 w ho hb hd hs
      · by_cases hk3 : k = 3
        · subst hk3
          have hl : ks.length = ds.length := by
            cases hf with
            | mk _ _ _ hk _ => exact (hk rfl).1
          exact AF_map N ih t ks ds hl (by omega) hdd l n base v c0 c1 c2 c3 w ho hb hd hs
        · obtain rfl : k = 2 := by omega
          exact AF_seq N ih t ks ds (by omega) hdd l n base v c0 c1 c2 c3 w ho hb hd hs
set_option maxRecDepth 100000 in
set_option maxHeartbeats 8000000 in
theorem write_c : WriteC := by
  intro d hok hlen c0 c1 c2 c3 w hd q hq
  obtain ⟨hf, h1, h2⟩ := (ok_iff (most := 2000)).1 hok
  have HB := Lib.hid (Boxed.make hd)
  obtain ⟨k, T, a, na, ca, A, mA, qA, rfl, rfl, rfl, rfl⟩ := NdC.cellsOk hd
  have HR := Lib.hid (Right_any d hf h1 h2 _ _ _ _ _ HB.out.2.2)
  have HAF := Lib.hid (fun W (h : NdW W d (.int .i64 k) (.string T) (.slice a na ca) (.slice A mA qA)) => AF_any (cntT d) d (Nat.le_refl _) hf [] 0 W.heap.size (.slice none 0 0) _ _ _ _ W (owns_nil W _ _) (Nat.le_refl _) h (by simpa using hlen))
  have HQ := Lib.hid hq
  obtain ⟨x0, x1, x2, x3⟩ := HB.out.2.1.cells
  clear hd hq hlen hok hf h1 h2
  go_enter Tryz.func7, Tryz.ntmps7
  go_wp2_with fail
  refine HR.out.mono ?_
  rintro e W2 ⟨rfl, hb2⟩
  have HB2 := Lib.hid (HB.out.go hb2)
  have HC := Lib.hid (HAF.out W2 HB2.out.2.2)
  clear hb2 HR HAF HB x0 x1 x2 x3
  obtain ⟨x0, x1, x2, x3⟩ := HB2.out.2.1.cells
  go_wp2_with fail
  refine HC.out.mono ?_
  rintro e W3 ⟨g, m, cap, rfl, ho, hg, hat⟩
  obtain ⟨g', cap', hv, hcv⟩ := own_conv ho (fun e => by cases e)
  injection hv with hv1 _ hv2
  injection hv1 with hv1
  injection hv1 with hv1
  subst hv1; subst hv2
  rw [mk_of (show [] ++ wrT d = q.data.toList from HQ.out)] at hcv
  have HB3 := Lib.hid (HB2.out.1.trans ((show Below W2.heap.size W2 W3 from ⟨hg.os, hg.tape, hg.output, hg.size, fun k hk => hg.block k hk (fun e => by cases e)⟩).mono HB2.out.1.size))
  clear ho hg hat HC x0 x1 x2 x3
  go_wp2
  go_ret
  exact ⟨rfl, HB3.out⟩
end Go.Proofs.YtemndagaicamiaaGreatDoor
