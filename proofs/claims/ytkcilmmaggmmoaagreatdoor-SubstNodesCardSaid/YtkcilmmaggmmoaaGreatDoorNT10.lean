/- RefNod5 -/
import Derived.Test.YtkcilmmaggmmoaaGreatDoorNT9
set_option linter.unusedVariables false
set_option linter.unusedSimpArgs false
set_option maxRecDepth 100000
set_option maxHeartbeats 16000000
open Go.Lib (hid)
namespace Go.Proofs.YtkcilmmaggmmoaaGreatDoor
namespace N8
end N8
namespace Nw
end Nw
end Go.Proofs.YtkcilmmaggmmoaaGreatDoor
namespace Go.Proofs.YtkcilmmaggmmoaaGreatDoor
section
open Go.RowKit Go.Sort
open Nw N8
theorem left3_t (N : Nat) (ih : LeftOf N) (t : L8) (ks : List L8) (ds : List Nd) (hcN : cntL ds ≤ N) (deep left r : Int) (hd0 : 0 ≤ deep) (hd1 : deep ≤ 12) (hl0 : 1 ≤ left) (hl1 : left ≤ 100000) (hr : leftT (.mk 3 t ks ds) deep left = r) (ht : t ≠ []) (c0 c1 c2 c3 : Value) (w : World) (hd : NdW w (.mk 3 t ks ds) c0 c1 c2 c3) :
  Calls Tryz.prog 14 #[.agg #[c0, c1, c2, c3], .int .i64 deep, .int .i64 left] w fun e w' => e = .returned (.int .i64 r) ∧ Below w.heap.size w w' := by
 have HB0 := hid (Boxed.make hd)
 obtain ⟨rfl, rfl, hks, A, cap, rfl, hcap, hmx, _, _⟩ := hd.parts
 obtain ⟨a, kcap, rfl, hkc, hkm⟩ := rd_slice hks
 have HIH := hid ih
 have HCN := hid hcN
 rw [leftT, if_neg (by omega)] at hr
 unfold maxLen at hkm hmx
 obtain ⟨n, hn⟩ : ∃ n, ds.length = n := ⟨_, rfl⟩
 have HN := hid hn
 rw [hn] at HB0 hcap hr ⊢
 have hn63 : n ≤ 9223372036854775807 := by omega
 obtain ⟨m, hmm⟩ : ∃ m, ks.length = m := ⟨_, rfl⟩
 have HM := hid hmm
 rw [hmm] at HB0 hkc ⊢
 have hm63 : m ≤ 9223372036854775807 := by omega
 obtain ⟨T, hT⟩ : ∃ T, ba t = T := ⟨_, rfl⟩
 have HTS : Hid (T.size = t.length) := hid (by rw [← hT]; exact ba_size t)
 rw [hT] at HB0 ⊢
 have HR0 := hid hr
 have el : IntKind.i64.wrap (left - 1) = left - 1 := IntWalk.i64_in _ (by omega)
 have g0 : ¬ left - 1 < 0 := by omega
 have g1 : ¬ 12 < deep := by omega
 obtain ⟨x0, x1, x2, x3⟩ := HB0.out.2.1.cells
 clear ih hd hcN hks hr hn hmm hT
 have b1 : (0 : Int) < (T.size : Int) := by have := List.length_pos_iff.2 ht; have := HTS.out; omega
 have b1n : 0 < T.size := by omega
 have b1d : decide ((0 : Int) < (T.size : Int)) = true := decide_eq_true b1
 have b1e : ¬ T = ByteArray.empty := fun e => by rw [e] at b1n; exact absurd b1n (by decide)
 clear ht
 have HE : Hid (r = -1) := hid (by rw [← HR0.out, if_pos (form_no1 (by decide) (by have := HTS.out; omega))])
 go_enter Tryz.func14, Tryz.ntmps14
 go_wp2
 go_ret
 exact ⟨ret_int HE.out.symm, HB0.out.1⟩
theorem left3_n (N : Nat) (ih : LeftOf N) (ks : List L8) (ds : List Nd) (hcN : cntL ds ≤ N) (deep left r : Int) (hd0 : 0 ≤ deep) (hd1 : deep ≤ 12) (hl0 : 1 ≤ left) (hl1 : left ≤ 100000) (hr : leftT (.mk 3 [] ks ds) deep left = r) (q1 : ks.length ≠ ds.length) (c0 c1 c2 c3 : Value) (w : World) (hd : NdW w (.mk 3 [] ks ds) c0 c1 c2 c3) :
  Calls Tryz.prog 14 #[.agg #[c0, c1, c2, c3], .int .i64 deep, .int .i64 left] w fun e w' => e = .returned (.int .i64 r) ∧ Below w.heap.size w w' := by
 have HB0 := hid (Boxed.make hd)
 obtain ⟨rfl, rfl, hks, A, cap, rfl, hcap, hmx, _, _⟩ := hd.parts
 obtain ⟨a, kcap, rfl, hkc, hkm⟩ := rd_slice hks
 have HIH := hid ih
 have HCN := hid hcN
 rw [leftT, if_neg (by omega)] at hr
 unfold maxLen at hkm hmx
 obtain ⟨n, hn⟩ : ∃ n, ds.length = n := ⟨_, rfl⟩
 have HN := hid hn
 rw [hn] at HB0 hcap hr ⊢
 have hn63 : n ≤ 9223372036854775807 := by omega
 obtain ⟨m, hmm⟩ : ∃ m, ks.length = m := ⟨_, rfl⟩
 have HM := hid hmm
 rw [hmm] at HB0 hkc ⊢
 have hm63 : m ≤ 9223372036854775807 := by omega
 rw [show ba [] = ⟨#[]⟩ from rfl] at HB0 ⊢
 have HR0 := hid hr
 have el : IntKind.i64.wrap (left - 1) = left - 1 := IntWalk.i64_in _ (by omega)
 have g0 : ¬ left - 1 < 0 := by omega
 have g1 : ¬ 12 < deep := by omega
 obtain ⟨x0, x1, x2, x3⟩ := HB0.out.2.1.cells
 clear ih hd hcN hks hr hn hmm
 have HF : Hid (formB 3 [] ks n = true) := hid (form_yes (fun h => absurd h.2 (by decide)) (fun h => h.1 rfl) (fun h => absurd h.1 (by decide)))
 have q2 : m ≠ n := by rw [HM.out, HN.out] at q1; exact q1
 clear q1
 have q1z : ((m : Int) != (n : Int)) = true := bne_iff_ne.2 (by omega)
 have HE : Hid (r = -1) := hid (by rw [← HR0.out, if_neg (by rw [HF.out]; decide), if_pos (by unfold keysB; rw [decide_eq_true (by rw [HM.out]; exact q2 : ks.length ≠ n)]; simp)])
 go_enter Tryz.func14, Tryz.ntmps14
 go_wp2
 go_quiet (fail)
 go_wp2
 go_ret
 exact ⟨ret_int HE.out.symm, HB0.out.1.trans ((belowD _ _).mono HB0.out.1.size)⟩
theorem left3_b (N : Nat) (ih : LeftOf N) (ks : List L8) (ds : List Nd) (hcN : cntL ds ≤ N) (deep left r : Int) (hd0 : 0 ≤ deep) (hd1 : deep ≤ 12) (hl0 : 1 ≤ left) (hl1 : left ≤ 100000) (hr : leftT (.mk 3 [] ks ds) deep left = r) (q1 : ks.length = ds.length) (q3 : left - 1 < (ds.length : Int)) (c0 c1 c2 c3 : Value) (w : World) (hd : NdW w (.mk 3 [] ks ds) c0 c1 c2 c3) :
  Calls Tryz.prog 14 #[.agg #[c0, c1, c2, c3], .int .i64 deep, .int .i64 left] w fun e w' => e = .returned (.int .i64 r) ∧ Below w.heap.size w w' := by
 have HB0 := hid (Boxed.make hd)
 obtain ⟨rfl, rfl, hks, A, cap, rfl, hcap, hmx, _, _⟩ := hd.parts
 obtain ⟨a, kcap, rfl, hkc, hkm⟩ := rd_slice hks
 have HIH := hid ih
 have HCN := hid hcN
 rw [leftT, if_neg (by omega)] at hr
 unfold maxLen at hkm hmx
 obtain ⟨n, hn⟩ : ∃ n, ds.length = n := ⟨_, rfl⟩
 have HN := hid hn
 rw [hn] at HB0 hcap hr ⊢
 have hn63 : n ≤ 9223372036854775807 := by omega
 obtain ⟨m, hmm⟩ : ∃ m, ks.length = m := ⟨_, rfl⟩
 have HM := hid hmm
 rw [hmm] at HB0 hkc ⊢
 have hm63 : m ≤ 9223372036854775807 := by omega
 rw [show ba [] = ⟨#[]⟩ from rfl] at HB0 ⊢
 have HR0 := hid hr
 have el : IntKind.i64.wrap (left - 1) = left - 1 := IntWalk.i64_in _ (by omega)
 have g0 : ¬ left - 1 < 0 := by omega
 have g1 : ¬ 12 < deep := by omega
 obtain ⟨x0, x1, x2, x3⟩ := HB0.out.2.1.cells
 clear ih hd hcN hks hr hn hmm
 have HF : Hid (formB 3 [] ks n = true) := hid (form_yes (fun h => absurd h.2 (by decide)) (fun h => h.1 rfl) (fun h => absurd h.1 (by decide)))
 have q2 : m = n := by rw [HM.out, HN.out] at q1; exact q1
 subst q2
 clear q1
 have q1z : ((m : Int) != (m : Int)) = false := by simp
 rw [HN.out] at q3
 have HE : Hid (r = -1) := hid (by rw [← HR0.out, if_neg (by rw [HF.out]; decide), if_pos (by unfold keysB; rw [decide_eq_true q3]; simp)])
 go_enter Tryz.func14, Tryz.ntmps14
 go_wp2
 go_quiet (fail)
 go_wp2
 go_ret
 exact ⟨ret_int HE.out.symm, HB0.out.1.trans ((belowD _ _).mono HB0.out.1.size)⟩
theorem left3_s (N : Nat) (ih : LeftOf N) (ks : List L8) (ds : List Nd) (hcN : cntL ds ≤ N) (deep left r : Int) (hd0 : 0 ≤ deep) (hd1 : deep ≤ 12) (hl0 : 1 ≤ left) (hl1 : left ≤ 100000) (hr : leftT (.mk 3 [] ks ds) deep left = r) (q1 : ks.length = ds.length) (q3 : ¬ left - 1 < (ds.length : Int)) (q4 : (sortL ks).length ≠ ks.length) (c0 c1 c2 c3 : Value) (w : World) (hd : NdW w (.mk 3 [] ks ds) c0 c1 c2 c3) :
  Calls Tryz.prog 14 #[.agg #[c0, c1, c2, c3], .int .i64 deep, .int .i64 left] w fun e w' => e = .returned (.int .i64 r) ∧ Below w.heap.size w w' := by
 have HB0 := hid (Boxed.make hd)
 obtain ⟨rfl, rfl, hks, A, cap, rfl, hcap, hmx, _, _⟩ := hd.parts
 obtain ⟨a, kcap, rfl, hkc, hkm⟩ := rd_slice hks
 have HIH := hid ih
 have HCN := hid hcN
 rw [leftT, if_neg (by omega)] at hr
 unfold maxLen at hkm hmx
 obtain ⟨n, hn⟩ : ∃ n, ds.length = n := ⟨_, rfl⟩
 have HN := hid hn
 rw [hn] at HB0 hcap hr ⊢
 have hn63 : n ≤ 9223372036854775807 := by omega
 obtain ⟨m, hmm⟩ : ∃ m, ks.length = m := ⟨_, rfl⟩
 have HM := hid hmm
 rw [hmm] at HB0 hkc ⊢
 have hm63 : m ≤ 9223372036854775807 := by omega
 rw [show ba [] = ⟨#[]⟩ from rfl] at HB0 ⊢
 have HR0 := hid hr
 have el : IntKind.i64.wrap (left - 1) = left - 1 := IntWalk.i64_in _ (by omega)
 have g0 : ¬ left - 1 < 0 := by omega
 have g1 : ¬ 12 < deep := by omega
 obtain ⟨x0, x1, x2, x3⟩ := HB0.out.2.1.cells
 clear ih hd hcN hks hr hn hmm
 have HF : Hid (formB 3 [] ks n = true) := hid (form_yes (fun h => absurd h.2 (by decide)) (fun h => h.1 rfl) (fun h => absurd h.1 (by decide)))
 have q2 : m = n := by rw [HM.out, HN.out] at q1; exact q1
 subst q2
 clear q1
 have q1z : ((m : Int) != (m : Int)) = false := by simp
 rw [HN.out] at q3
 have q3d : decide (left - 1 < (m : Int)) = false := decide_eq_false q3
 have q1d : decide ((m : Int) ≠ (m : Int)) = false := by simp
 obtain ⟨s, hs⟩ : ∃ s, (sortL ks).length = s := ⟨_, rfl⟩
 have HS := hid (fun W hW => RSorted_slice (.slice a m kcap) ks W hW (by have := HM.out; omega) s hs)
 have HSS := hid hs
 rw [hs, HM.out] at q4
 clear hs
 have q4z : ((s : Int) != (m : Int)) = true := bne_iff_ne.2 (by omega)
 have HE : Hid (r = -1) := hid (by rw [← HR0.out, if_neg (by rw [HF.out]; decide), if_pos (by unfold keysB; rw [decide_eq_true (by rw [HSS.out, HM.out]; exact q4 : (sortL ks).length ≠ ks.length)]; simp)])
 go_enter Tryz.func14, Tryz.ntmps14
 go_wp2
 have hS1 := sB (HB0.out.go (belowD _ 1))
 go_region_held3 (fun W => W.cell? ⟨w.heap.size, 0, none⟩ = some (.int .i64 3) ∧ W.cell? ⟨w.heap.size, 1, none⟩ = some (.string ⟨#[]⟩) ∧ W.cell? ⟨w.heap.size, 2, none⟩ = some (.slice a m kcap) ∧ W.cell? ⟨w.heap.size, 3, none⟩ = some (.slice A m cap) ∧ SB w W (.mk 3 [] ks ds) (.int .i64 3) (.string ⟨#[]⟩) (.slice a m kcap) (.slice A m cap)) (first | exact hS1 | assumption | exact sB_go (by assumption) (by assumption))
  (first | (go_at_call 29; refine (HS.out _ (sB_keys (by first | exact hS1 | assumption))).mono ?_; rintro e w2 ⟨a2, cap2, rfl, hb2⟩))
 all_goals
  go_wp2
  go_ret
  exact ⟨ret_int HE.out.symm, (sB_boxed (w := w) (by assumption)).1⟩
theorem left3_y (N : Nat) (ih : LeftOf N) (ks : List L8) (ds : List Nd) (hcN : cntL ds ≤ N) (deep left r : Int) (hd0 : 0 ≤ deep) (hd1 : deep ≤ 12) (hl0 : 1 ≤ left) (hl1 : left ≤ 100000) (hr : leftT (.mk 3 [] ks ds) deep left = r) (q1 : ks.length = ds.length) (q3 : ¬ left - 1 < (ds.length : Int)) (q4 : (sortL ks).length = ks.length) (c0 c1 c2 c3 : Value) (w : World) (hd : NdW w (.mk 3 [] ks ds) c0 c1 c2 c3) :
  Calls Tryz.prog 14 #[.agg #[c0, c1, c2, c3], .int .i64 deep, .int .i64 left] w fun e w' => e = .returned (.int .i64 r) ∧ Below w.heap.size w w' := by
 have HB0 := hid (Boxed.make hd)
 obtain ⟨rfl, rfl, hks, A, cap, rfl, hcap, hmx, _, _⟩ := hd.parts
 obtain ⟨a, kcap, rfl, hkc, hkm⟩ := rd_slice hks
 have HIH := hid ih
 have HCN := hid hcN
 rw [leftT, if_neg (by omega)] at hr
 unfold maxLen at hkm hmx
 obtain ⟨n, hn⟩ : ∃ n, ds.length = n := ⟨_, rfl⟩
 have HN := hid hn
 rw [hn] at HB0 hcap hr ⊢
 have hn63 : n ≤ 9223372036854775807 := by omega
 obtain ⟨m, hmm⟩ : ∃ m, ks.length = m := ⟨_, rfl⟩
 have HM := hid hmm
 rw [hmm] at HB0 hkc ⊢
 have hm63 : m ≤ 9223372036854775807 := by omega
 rw [show ba [] = ⟨#[]⟩ from rfl] at HB0 ⊢
 have HR0 := hid hr
 have el : IntKind.i64.wrap (left - 1) = left - 1 := IntWalk.i64_in _ (by omega)
 have g0 : ¬ left - 1 < 0 := by omega
 have g1 : ¬ 12 < deep := by omega
 obtain ⟨x0, x1, x2, x3⟩ := HB0.out.2.1.cells
 clear ih hd hcN hks hr hn hmm
 have HF : Hid (formB 3 [] ks n = true) := hid (form_yes (fun h => absurd h.2 (by decide)) (fun h => h.1 rfl) (fun h => absurd h.1 (by decide)))
 have q2 : m = n := by rw [HM.out, HN.out] at q1; exact q1
 subst q2
 clear q1
 have q1z : ((m : Int) != (m : Int)) = false := by simp
 rw [HN.out] at q3
 have q3d : decide (left - 1 < (m : Int)) = false := decide_eq_false q3
 have q1d : decide ((m : Int) ≠ (m : Int)) = false := by simp
 obtain ⟨s, hs⟩ : ∃ s, (sortL ks).length = s := ⟨_, rfl⟩
 have HS := hid (fun W hW => RSorted_slice (.slice a m kcap) ks W hW (by have := HM.out; omega) s hs)
 have HSS := hid hs
 rw [hs, HM.out] at q4
 clear hs
 have q5 : s = m := q4
 subst q5
 have q4z : ((s : Int) != (s : Int)) = false := by simp
 have q4d : decide ((s : Int) ≠ (s : Int)) = false := by simp
 have HRL : Hid (leftL (ds.drop 0) (deep + 1) (left - 1) = r) := hid (by rw [← HR0.out, if_neg (by rw [HF.out]; decide), if_neg (by unfold keysB; rw [decide_eq_false (by rw [HM.out]; simp : ¬ ks.length ≠ s), decide_eq_false (by omega : ¬ left - 1 < (s : Int)), decide_eq_false (by rw [HSS.out, HM.out]; simp : ¬ (sortL ks).length ≠ ks.length)]; simp)]; rfl)
 go_enter Tryz.func14, Tryz.ntmps14
 go_wp2
 have hS1 := sB (HB0.out.go (belowD _ 1))
 go_region_held3 (fun W => W.cell? ⟨w.heap.size, 0, none⟩ = some (.int .i64 3) ∧ W.cell? ⟨w.heap.size, 1, none⟩ = some (.string ⟨#[]⟩) ∧ W.cell? ⟨w.heap.size, 2, none⟩ = some (.slice a s kcap) ∧ W.cell? ⟨w.heap.size, 3, none⟩ = some (.slice A s cap) ∧ SB w W (.mk 3 [] ks ds) (.int .i64 3) (.string ⟨#[]⟩) (.slice a s kcap) (.slice A s cap)) (first | exact hS1 | assumption | exact sB_go (by assumption) (by assumption))
  (first | (go_at_call 29; refine (HS.out _ (sB_keys (by first | exact hS1 | assumption))).mono ?_; rintro e w2 ⟨a2, cap2, rfl, hb2⟩))
 go_wp2
 clear x0 x1 x2 x3
 go_loopw [2, 7] (fun sl si wr => ∃ (i : Nat) (L : Int), i ≤ s ∧ 0 ≤ L ∧ L ≤ 100000 ∧ si = .int .i64 (i : Int) ∧ sl = .int .i64 L ∧ Hid (leftL (ds.drop i) (deep + 1) L = r) ∧ Hid (Boxed w wr (.mk 3 [] ks ds) (.int .i64 3) (.string ⟨#[]⟩) (.slice a s kcap) (.slice A s cap))) (fun _ si _ => s - (intOf si).toNat)
 case atStart => exact ⟨0, left - 1, Nat.zero_le _, by omega, by omega, rfl, rfl, HRL, hid (sB_boxed (w := w) (by assumption))⟩
 case round =>
  clear HB0 HRL
  obtain ⟨i, L, hi, hL0, hL1, rfl, rfl, HRL, HB⟩ := hrel
  obtain ⟨x0, x1, x2, x3⟩ := HB.out.2.1.cells
  by_cases hin : i < s
  ·have hil : i < ds.length := by rw [HN.out]; exact hin
   have hiz : (i : Int) < (s : Int) := by omega
   obtain ⟨b, o, e0, e1, e2, e3, rfl, hb, y0, y1, y2, y3, hnd⟩ := HB.out.2.2.kid i hil
   have hck : cntT (ds[i]'hil) ≤ cntL ds := cntL_mem (List.getElem_mem hil)
   obtain ⟨q, hq⟩ : ∃ q, leftT (ds[i]'hil) (deep + 1) L = q := ⟨_, rfl⟩
   have hrg := leftT_range (ds[i]'hil) (deep + 1) L
   have hnx := leftL_next hil (deep + 1) L
   rw [hq] at hrg hnx
   have HR := hid (HIH.out (ds[i]'hil) (by have := HCN.out; omega) (deep + 1) L q (by omega) (by omega) hL0 hL1 hq e0 e1 e2 e3 wr hnd)
   have ed : IntKind.i64.wrap (deep + 1) = deep + 1 := IntWalk.i64_in _ (by omega)
   by_cases hneg : q < 0
   ·have HE : Hid (r = -1) := hid (by rw [← HRL.out, hnx, if_pos hneg])
    clear hnd hck hrg hnx hq
    go_wp2_with (go_at_call 14; refine HR.out.mono ?_; rintro e w2 ⟨rfl, hb2⟩)
    go_ret
    exact ⟨ret_int HE.out.symm, (HB.out.go hb2).1⟩
   ·have HN2 : Hid (leftL (ds.drop (i + 1)) (deep + 1) q = r) := hid (by rw [← HRL.out, hnx, if_neg hneg])
    have hq1 : q ≤ 100000 := by rcases hrg with h | ⟨_, h⟩ <;> omega
    clear hnd hck hrg hnx hq
    go_wp2_with (go_at_call 14; refine HR.out.mono ?_; rintro e w2 ⟨rfl, hb2⟩)
    have HB2 := hid (HB.out.go hb2)
    clear hb2
    go_roundw
    case measure => simp [intOf]; omega
    case rel => exact ⟨i + 1, q, by omega, by omega, hq1, by go_num, rfl, HN2, HB2⟩
  ·obtain rfl : i = s := by omega
   have HE : Hid (L = r) := hid (by rw [← HRL.out, List.drop_of_length_le (by rw [HN.out]; exact Nat.le_refl _), leftL])
   go_wp2
   go_ret
   exact ⟨ret_int HE.out, HB.out.1⟩
theorem left_out (k : Int) (t : L8) (ks : List L8) (ds : List Nd) (deep left r : Int) (hd0 : 0 ≤ deep) (hd1 : deep ≤ 13) (hl0 : 0 ≤ left) (hl1 : left ≤ 100000) (hout : left - 1 < 0 ∨ 12 < deep ∨ k < 0 ∨ 3 < k) (hr : leftT (.mk k t ks ds) deep left = r) (c0 c1 c2 c3 : Value) (w : World) (hd : NdW w (.mk k t ks ds) c0 c1 c2 c3) :
  Calls Tryz.prog 14 #[.agg #[c0, c1, c2, c3], .int .i64 deep, .int .i64 left] w fun e w' => e = .returned (.int .i64 r) ∧ Below w.heap.size w w' := by
 have HB0 := hid (Boxed.make hd)
 obtain ⟨rfl, -, -, -⟩ := hd.parts
 rw [leftT, if_pos hout] at hr
 have HE : Hid (r = -1) := hid hr.symm
 have el : IntKind.i64.wrap (left - 1) = left - 1 := IntWalk.i64_in _ (by omega)
 obtain ⟨x0, x1, x2, x3⟩ := HB0.out.2.1.cells
 clear hr hd
 by_cases g0 : left - 1 < 0
 ·clear hout
  go_enter Tryz.func14, Tryz.ntmps14
  go_wp2
  go_ret
  exact ⟨ret_int HE.out.symm, HB0.out.1⟩
 by_cases g1 : 12 < deep
 ·clear hout
  go_enter Tryz.func14, Tryz.ntmps14
  go_wp2
  go_ret
  exact ⟨ret_int HE.out.symm, HB0.out.1⟩
 by_cases g2 : k < 0
 ·clear hout
  go_enter Tryz.func14, Tryz.ntmps14
  go_wp2
  go_ret
  exact ⟨ret_int HE.out.symm, HB0.out.1⟩
 ·have g3 : 3 < k := by omega
  clear hout
  go_enter Tryz.func14, Tryz.ntmps14
  go_wp2
  go_ret
  exact ⟨ret_int HE.out.symm, HB0.out.1⟩
theorem RLeft_any : ∀ N, LeftOf N := by
 intro N
 induction N with
 | zero => intro d h; have := cntT_pos d; omega
 | succ N ih =>
  intro d hN deep left r hd0 hd1 hl0 hl1 hr c0 c1 c2 c3 w hd
  cases d with
  | mk k t ks ds =>
   have hcN : cntL ds ≤ N := by rw [cntT] at hN; omega
   by_cases hout : left - 1 < 0 ∨ 12 < deep ∨ k < 0 ∨ 3 < k
   ·exact left_out k t ks ds deep left r hd0 hd1 hl0 hl1 hout hr c0 c1 c2 c3 w hd
   have hz : (0 : Nat) ≤ N := Nat.zero_le _
   have hk : k = 0 ∨ k = 1 ∨ k = 2 ∨ k = 3 := by omega
   rcases hk with rfl | rfl | rfl | rfl
   ·by_cases ht : t = []
    ·subst ht
     by_cases hks : ks = []
     ·subst hks
      by_cases hds : ds = []
      ·subst hds; exact left0_y N ih hcN deep left r hd0 (by omega) (by omega) hl1 hr c0 c1 c2 c3 w hd
      ·exact left0_d N ih ds hcN deep left r hd0 (by omega) (by omega) hl1 hr hds c0 c1 c2 c3 w hd
     ·exact left0_k N ih ks ds hcN deep left r hd0 (by omega) (by omega) hl1 hr hks c0 c1 c2 c3 w hd
    ·exact left0_t N ih t ks ds hcN deep left r hd0 (by omega) (by omega) hl1 hr ht c0 c1 c2 c3 w hd
   ·by_cases hks : ks = []
    ·subst hks
     by_cases hds : ds = []
     ·subst hds; exact left1_y N ih t hcN deep left r hd0 (by omega) (by omega) hl1 hr c0 c1 c2 c3 w hd
     ·exact left1_d N ih t ds hcN deep left r hd0 (by omega) (by omega) hl1 hr hds c0 c1 c2 c3 w hd
    ·exact left1_k N ih t ks ds hcN deep left r hd0 (by omega) (by omega) hl1 hr hks c0 c1 c2 c3 w hd
   ·by_cases ht : t = []
    ·subst ht
     by_cases hks : ks = []
     ·subst hks; exact left2_y N ih ds hcN deep left r hd0 (by omega) (by omega) hl1 hr c0 c1 c2 c3 w hd
     ·exact left2_k N ih ks ds hcN deep left r hd0 (by omega) (by omega) hl1 hr hks c0 c1 c2 c3 w hd
    ·exact left2_t N ih t ks ds hcN deep left r hd0 (by omega) (by omega) hl1 hr ht c0 c1 c2 c3 w hd
   ·by_cases ht : t = []
    ·subst ht
     by_cases q1 : ks.length = ds.length
     ·by_cases q3 : left - 1 < (ds.length : Int)
      ·exact left3_b N ih ks ds hcN deep left r hd0 (by omega) (by omega) hl1 hr q1 q3 c0 c1 c2 c3 w hd
      ·by_cases q4 : (sortL ks).length = ks.length
       ·exact left3_y N ih ks ds hcN deep left r hd0 (by omega) (by omega) hl1 hr q1 q3 q4 c0 c1 c2 c3 w hd
       ·exact left3_s N ih ks ds hcN deep left r hd0 (by omega) (by omega) hl1 hr q1 q3 q4 c0 c1 c2 c3 w hd
     ·exact left3_n N ih ks ds hcN deep left r hd0 (by omega) (by omega) hl1 hr q1 c0 c1 c2 c3 w hd
    ·exact left3_t N ih t ks ds hcN deep left r hd0 (by omega) (by omega) hl1 hr ht c0 c1 c2 c3 w hd
end
end Go.Proofs.YtkcilmmaggmmoaaGreatDoor
