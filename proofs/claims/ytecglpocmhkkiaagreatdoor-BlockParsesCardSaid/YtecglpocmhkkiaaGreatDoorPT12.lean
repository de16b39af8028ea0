/- RefNod5, RefNod6, BloFacts, BloBad, LinBackMath, LinSame, BloSmall, BloEx -/
import Derived.Test.YtecglpocmhkkiaaGreatDoorPT1
import Derived.Test.YtecglpocmhkkiaaGreatDoorPT11
import Derived.Test.YtecglpocmhkkiaaGreatDoorPT3
set_option linter.unusedVariables false
set_option linter.unusedSimpArgs false
set_option maxRecDepth 100000
set_option maxHeartbeats 16000000
open Go.Lib (hid)
namespace Go.Proofs.YtecglpocmhkkiaaGreatDoor
section
open Go.RowKit Go.Sort
open Nw N8
theorem left3_t (N : Nat) (ih : LeftOf N) (t : L8) (ks : List L8) (ds : List Nd) (hcN : cntL ds ≤ N) (deep left r : Int) (hd0 : 0 ≤ deep) (hd1 : deep ≤ 12) (hl0 : 1 ≤ left) (hl1 : left ≤ 100000) (hr : leftT (.mk 3 t ks ds) deep left = r) (ht : t ≠ []) (c0 c1 c2 c3 : Value) (w : World) (hd : NdW w (.mk 3 t ks ds) c0 c1 c2 c3) :
  Calls Tryz.prog 42 #[.agg #[c0, c1, c2, c3], .int .i64 deep, .int .i64 left] w fun e w' => e = .returned (.int .i64 r) ∧ Below w.heap.size w w' := by
 have HB0 := hid (Boxed.make hd)
 obtain ⟨rfl, rfl, hks, A, cap, rfl, hcap, hmx, _, _⟩ := hd.parts
 obtain ⟨a, kcap, rfl, hkc, hkm⟩ := rd_slice hks
 have HIH := hid ih
 have HCN := hid hcN
 rw [leftT, if_neg (by omega)] at hr
 unfold maxLen at hkm hmx
 obtain ⟨n, hn⟩ : ∃ n, ds.length = n := ⟨_, rfl⟩
 have HN := hid hn
 rw [hn] at HB0 hcap hr ⊢
 have hn63 : n ≤ 9223372036854775807 := by omega
 obtain ⟨m, hmm⟩ : ∃ m, ks.length = m := ⟨_, rfl⟩
 have HM := hid hmm
 rw [hmm] at HB0 hkc ⊢
 have hm63 : m ≤ 9223372036854775807 := by omega
 obtain ⟨T, hT⟩ : ∃ T, ba t = T := ⟨_, rfl⟩
 have HTS : Hid (T.size = t.length) := hid (by rw [← hT]; exact ba_size t)
 rw [hT] at HB0 ⊢
 have HR0 := hid hr
 have el : IntKind.i64.wrap (left - 1) = left - 1 := IntWalk.i64_in _ (by omega)
 have g0 : ¬ left - 1 < 0 := by omega
 have g1 : ¬ 12 < deep := by omega
 obtain ⟨x0, x1, x2, x3⟩ := HB0.out.2.1.cells
 clear ih hd hcN hks hr hn hmm hT
 have b1 : (0 : Int) < (T.size : Int) := by have := List.length_pos_iff.2 ht; have := HTS.out; omega
 have b1n : 0 < T.size := by omega
 have b1d : decide ((0 : Int) < (T.size : Int)) = true := decide_eq_true b1
 have b1e : ¬ T = ByteArray.empty := fun e => by rw [e] at b1n; exact absurd b1n (by decide)
 clear ht
 have HE : Hid (r = -1) := hid (by rw [← HR0.out, if_pos (form_no1 (by decide) (by have := HTS.out; omega))])
 go_enter Tryz.func42, Tryz.ntmps42
 go_wp2
 go_ret
 exact ⟨ret_int HE.out.symm, HB0.out.1⟩
theorem left3_n (N : Nat) (ih : LeftOf N) (ks : List L8) (ds : List Nd) (hcN : cntL ds ≤ N) (deep left r : Int) (hd0 : 0 ≤ deep) (hd1 : deep ≤ 12) (hl0 : 1 ≤ left) (hl1 : left ≤ 100000) (hr : leftT (.mk 3 [] ks ds) deep left = r) (q1 : ks.length ≠ ds.length) (c0 c1 c2 c3 : Value) (w : World) (hd : NdW w (.mk 3 [] ks ds) c0 c1 c2 c3) :
  Calls Tryz.prog 42 #[.agg #[c0, c1, c2, c3], .int .i64 deep, .int .i64 left] w fun e w' => e = .returned (.int .i64 r) ∧ Below w.heap.size w w' := by
 have HB0 := hid (Boxed.make hd)
 obtain ⟨rfl, rfl, hks, A, cap, rfl, hcap, hmx, _, _⟩ := hd.parts
 obtain ⟨a, kcap, rfl, hkc, hkm⟩ := rd_slice hks
 have HIH := hid ih
 have HCN := hid hcN
 rw [leftT, if_neg (by omega)] at hr
 unfold maxLen at hkm hmx
 obtain ⟨n, hn⟩ : ∃ n, ds.length = n := ⟨_, rfl⟩
 have HN := hid hn
 rw [hn] at HB0 hcap hr ⊢
 have hn63 : n ≤ 9223372036854775807 := by omega
 obtain ⟨m, hmm⟩ : ∃ m, ks.length = m := ⟨_, rfl⟩
 have HM := hid hmm
 rw [hmm] at HB0 hkc ⊢
 have hm63 : m ≤ 9223372036854775807 := by omega
 rw [show ba [] = ⟨#[]⟩ from rfl] at HB0 ⊢
 have HR0 := hid hr
 have el : IntKind.i64.wrap (left - 1) = left - 1 := IntWalk.i64_in _ (by omega)
 have g0 : ¬ left - 1 < 0 := by omega
 have g1 : ¬ 12 < deep := by omega
 obtain ⟨x0, x1, x2, x3⟩ := HB0.out.2.1.cells
 clear ih hd hcN hks hr hn hmm
 have HF : Hid (formB 3 [] ks n = true) := hid (form_yes (fun h => absurd h.2 (by decide)) (fun h => h.1 rfl) (fun h => absurd h.1 (by decide)))
 have q2 : m ≠ n := by rw [HM.out, HN.out] at q1; exact q1
 clear q1
 have q1z : ((m : Int) != (n : Int)) = true := bne_iff_ne.2 (by omega)
 have HE : Hid (r = -1) := hid (by rw [← HR0.out, if_neg (by rw [HF.out]; decide), if_pos (by unfold keysB; rw [decide_eq_true (by rw [HM.out]; exact q2 : ks.length ≠ n)]; simp)])
 go_enter Tryz.func42, Tryz.ntmps42
 go_wp2
 go_quiet (fail)
 go_wp2
 go_ret
 exact ⟨ret_int HE.out.symm, HB0.out.1.trans ((belowD _ _).mono HB0.out.1.size)⟩
theorem left3_b (N : Nat) (ih : LeftOf N) (ks : List L8) (ds : List Nd) (hcN : cntL ds ≤ N) (deep left r : Int) (hd0 : 0 ≤ deep) (hd1 : deep ≤ 12) (hl0 : 1 ≤ left) (hl1 : left ≤ 100000) (hr : leftT (.mk 3 [] ks ds) deep left = r) (q1 : ks.length = ds.length) (q3 : left - 1 < (ds.length : Int)) (c0 c1 c2 c3 : Value) (w : World) (hd : NdW w (.mk 3 [] ks ds) c0 c1 c2 c3) :
  Calls Tryz.prog 42 #[.agg #[c0, c1, c2, c3], .int .i64 deep, .int .i64 left] w fun e w' => e = .returned (.int .i64 r) ∧ Below w.heap.size w w' := by
 have HB0 := hid (Boxed.make hd)
 obtain ⟨rfl, rfl, hks, A, cap, rfl, hcap, hmx, _, _⟩ := hd.parts
 obtain ⟨a, kcap, rfl, hkc, hkm⟩ := rd_slice hks
 have HIH := hid ih
 have HCN := hid hcN
 rw [leftT, if_neg (by omega)] at hr
 unfold maxLen at hkm hmx
 obtain ⟨n, hn⟩ : ∃ n, ds.length = n := ⟨_, rfl⟩
 have HN := hid hn
 rw [hn] at HB0 hcap hr ⊢
 have hn63 : n ≤ 9223372036854775807 := by omega
 obtain ⟨m, hmm⟩ : ∃ m, ks.length = m := ⟨_, rfl⟩
 have HM := hid hmm
 rw [hmm] at HB0 hkc ⊢
 have hm63 : m ≤ 9223372036854775807 := by omega
 rw [show ba [] = ⟨#[]⟩ from rfl] at HB0 ⊢
 have HR0 := hid hr
 have el : IntKind.i64.wrap (left - 1) = left - 1 := IntWalk.i64_in _ (by omega)
 have g0 : ¬ left - 1 < 0 := by omega
 have g1 : ¬ 12 < deep := by omega
 obtain ⟨x0, x1, x2, x3⟩ := HB0.out.2.1.cells
 clear ih hd hcN hks hr hn hmm
 have HF : Hid (formB 3 [] ks n = true) := hid (form_yes (fun h => absurd h.2 (by decide)) (fun h => h.1 rfl) (fun h => absurd h.1 (by decide)))
 have q2 : m = n := by rw [HM.out, HN.out] at q1; exact q1
 subst q2
 clear q1
 have q1z : ((m : Int) != (m : Int)) = false := by simp
 rw [HN.out] at q3
 have HE : Hid (r = -1) := hid (by rw [← HR0.out, if_neg (by rw [HF.out]; decide), if_pos (by unfold keysB; rw [decide_eq_true q3]; simp)])
 go_enter Tryz.func42, Tryz.ntmps42
 go_wp2
 go_quiet (fail)
 go_wp2
 go_ret
 exact ⟨ret_int HE.out.symm, HB0.out.1.trans ((belowD _ _).mono HB0.out.1.size)⟩
theorem left3_s (N : Nat) (ih : LeftOf N) (ks : List L8) (ds : List Nd) (hcN : cntL ds ≤ N) (deep left r : Int) (hd0 : 0 ≤ deep) (hd1 : deep ≤ 12) (hl0 : 1 ≤ left) (hl1 : left ≤ 100000) (hr : leftT (.mk 3 [] ks ds) deep left = r) (q1 : ks.length = ds.length) (q3 : ¬ left - 1 < (ds.length : Int)) (q4 : (sortL ks).length ≠ ks.length) (c0 c1 c2 c3 : Value) (w : World) (hd : NdW w (.mk 3 [] ks ds) c0 c1 c2 c3) :
  Calls Tryz.prog 42 #[.agg #[c0, c1, c2, c3], .int .i64 deep, .int .i64 left] w fun e w' => e = .returned (.int .i64 r) ∧ Below w.heap.size w w' := by
 have HB0 := hid (Boxed.make hd)
 obtain ⟨rfl, rfl, hks, A, cap, rfl, hcap, hmx, _, _⟩ := hd.parts
 obtain ⟨a, kcap, rfl, hkc, hkm⟩ := rd_slice hks
 have HIH := hid ih
 have HCN := hid hcN
 rw [leftT, if_neg (by omega)] at hr
 unfold maxLen at hkm hmx
 obtain ⟨n, hn⟩ : ∃ n, ds.length = n := ⟨_, rfl⟩
 have HN := hid hn
 rw [hn] at HB0 hcap hr ⊢
 have hn63 : n ≤ 9223372036854775807 := by omega
 obtain ⟨m, hmm⟩ : ∃ m, ks.length = m := ⟨_, rfl⟩
 have HM := hid hmm
 rw [hmm] at HB0 hkc ⊢
 have hm63 : m ≤ 9223372036854775807 := by omega
 rw [show ba [] = ⟨#[]⟩ from rfl] at HB0 ⊢
 have HR0 := hid hr
 have el : IntKind.i64.wrap (left - 1) = left - 1 := IntWalk.i64_in _ (by omega)
 have g0 : ¬ left - 1 < 0 := by omega
 have g1 : ¬ 12 < deep := by omega
 obtain ⟨x0, x1, x2, x3⟩ := HB0.out.2.1.cells
 clear ih hd hcN hks hr hn hmm
 have HF : Hid (formB 3 [] ks n = true) := hid (form_yes (fun h => absurd h.2 (by decide)) (fun h => h.1 rfl) (fun h => absurd h.1 (by decide)))
 have q2 : m = n := by rw [HM.out, HN.out] at q1; exact q1
 subst q2
 clear q1
 have q1z : ((m : Int) != (m : Int)) = false := by simp
 rw [HN.out] at q3
 have q3d : decide (left - 1 < (m : Int)) = false := decide_eq_false q3
 have q1d : decide ((m : Int) ≠ (m : Int)) = false := by simp
 obtain ⟨s, hs⟩ : ∃ s, (sortL ks).length = s := ⟨_, rfl⟩
 have HS := hid (fun W hW => RSorted_slice (.slice a m kcap) ks W hW (by have := HM.out; omega) s hs)
 have HSS := hid hs
 rw [hs, HM.out] at q4
 clear hs
 have q4z : ((s : Int) != (m : Int)) = true := bne_iff_ne.2 (by omega)
 have HE : Hid (r = -1) := hid (by rw [← HR0.out, if_neg (by rw [HF.out]; decide), if_pos (by unfold keysB; rw [decide_eq_true (by rw [HSS.out, HM.out]; exact q4 : (sortL ks).length ≠ ks.length)]; simp)])
 go_enter Tryz.func42, Tryz.ntmps42
 go_wp2
 have hS1 := sB (HB0.out.go (belowD _ 1))
 go_region_held3 (fun W => W.cell? ⟨w.heap.size, 0, none⟩ = some (.int .i64 3) ∧ W.cell? ⟨w.heap.size, 1, none⟩ = some (.string ⟨#[]⟩) ∧ W.cell? ⟨w.heap.size, 2, none⟩ = some (.slice a m kcap) ∧ W.cell? ⟨w.heap.size, 3, none⟩ = some (.slice A m cap) ∧ SB w W (.mk 3 [] ks ds) (.int .i64 3) (.string ⟨#[]⟩) (.slice a m kcap) (.slice A m cap)) (first | exact hS1 | assumption | exact sB_go (by assumption) (by assumption))
  (first | (go_at_call 70; refine (HS.out _ (sB_keys (by first | exact hS1 | assumption))).mono ?_; rintro e w2 ⟨a2, cap2, rfl, hb2⟩))
 all_goals
  go_wp2
  go_ret
  exact ⟨ret_int HE.out.symm, (sB_boxed (w := w) (by assumption)).1⟩
theorem left3_y (N : Nat) (ih : LeftOf N) (ks : List L8) (ds : List Nd) (hcN : cntL ds ≤ N) (deep left r : Int) (hd0 : 0 ≤ deep) (hd1 : deep ≤ 12) (hl0 : 1 ≤ left) (hl1 : left ≤ 100000) (hr : leftT (.mk 3 [] ks ds) deep left = r) (q1 : ks.length = ds.length) (q3 : ¬ left - 1 < (ds.length : Int)) (q4 : (sortL ks).length = ks.length) (c0 c1 c2 c3 : Value) (w : World) (hd : NdW w (.mk 3 [] ks ds) c0 c1 c2 c3) :
  Calls Tryz.prog 42 #[.agg #[c0, c1, c2, c3], .int .i64 deep, .int .i64 left] w fun e w' => e = .returned (.int .i64 r) ∧ Below w.heap.size w w' := by
 have HB0 := hid (Boxed.make hd)
 obtain ⟨rfl, rfl, hks, A, cap, rfl, hcap, hmx, _, _⟩ := hd.parts
 obtain ⟨a, kcap, rfl, hkc, hkm⟩ := rd_slice hks
 have HIH := hid ih
 have HCN := hid hcN
 rw [leftT, if_neg (by omega)] at hr
 unfold maxLen at hkm hmx
 obtain ⟨n, hn⟩ : ∃ n, ds.length = n := ⟨_, rfl⟩
 have HN := hid hn
 rw [hn] at HB0 hcap hr ⊢
 have hn63 : n ≤ 9223372036854775807 := by omega
 obtain ⟨m, hmm⟩ : ∃ m, ks.length = m := ⟨_, rfl⟩
 have HM := hid hmm
 rw [hmm] at HB0 hkc ⊢
 have hm63 : m ≤ 9223372036854775807 := by omega
 rw [show ba [] = ⟨#[]⟩ from rfl] at HB0 ⊢
 have HR0 := hid hr
 have el : IntKind.i64.wrap (left - 1) = left - 1 := IntWalk.i64_in _ (by omega)
 have g0 : ¬ left - 1 < 0 := by omega
 have g1 : ¬ 12 < deep := by omega
 obtain ⟨x0, x1, x2, x3⟩ := HB0.out.2.1.cells
 clear ih hd hcN hks hr hn hmm
 have HF : Hid (formB 3 [] ks n = true) := hid (form_yes (fun h => absurd h.2 (by decide)) (fun h => h.1 rfl) (fun h => absurd h.1 (by decide)))
 have q2 : m = n := by rw [HM.out, HN.out] at q1; exact q1
 subst q2
 clear q1
 have q1z : ((m : Int) != (m : Int)) = false := by simp
 rw [HN.out] at q3
 have q3d : decide (left - 1 < (m : Int)) = false := decide_eq_false q3
 have q1d : decide ((m : Int) ≠ (m : Int)) = false := by simp
 obtain ⟨s, hs⟩ : ∃ s, (sortL ks).length = s := ⟨_, rfl⟩
 have HS := hid (fun W hW => RSorted_slice (.slice a m kcap) ks W hW (by have := HM.out; omega) s hs)
 have HSS := hid hs
 rw [hs, HM.out] at q4
 clear hs
 have q5 : s = m := q4
 subst q5
 have q4z : ((s : Int) != (s : Int)) = false := by simp
 have q4d : decide ((s : Int) ≠ (s : Int)) = false := by simp
 have HRL : Hid (leftL (ds.drop 0) (deep + 1) (left - 1) = r) := hid (by rw [← HR0.out, if_neg (by rw [HF.out]; decide), if_neg (by unfold keysB; rw [decide_eq_false (by rw [HM.out]; simp : ¬ ks.length ≠ s), decide_eq_false (by omega : ¬ left - 1 < (s : Int)), decide_eq_false (by rw [HSS.out, HM.out]; simp : ¬ (sortL ks).length ≠ ks.length)]; simp)]; rfl)
 go_enter Tryz.func42, Tryz.ntmps42
 go_wp2
 have hS1 := sB (HB0.out.go (belowD _ 1))
 go_region_held3 (fun W => W.cell? ⟨w.heap.size, 0, none⟩ = some (.int .i64 3) ∧ W.cell? ⟨w.heap.size, 1, none⟩ = some (.string ⟨#[]⟩) ∧ W.cell? ⟨w.heap.size, 2, none⟩ = some (.slice a s kcap) ∧ W.cell? ⟨w.heap.size, 3, none⟩ = some (.slice A s cap) ∧ SB w W (.mk 3 [] ks ds) (.int .i64 3) (.string ⟨#[]⟩) (.slice a s kcap) (.slice A s cap)) (first | exact hS1 | assumption | exact sB_go (by assumption) (by assumption))
  (first | (go_at_call 70; refine (HS.out _ (sB_keys (by first | exact hS1 | assumption))).mono ?_; rintro e w2 ⟨a2, cap2, rfl, hb2⟩))
 go_wp2
 clear x0 x1 x2 x3
 go_loopw [2, 7] (fun sl si wr => ∃ (i : Nat) (L : Int), i ≤ s ∧ 0 ≤ L ∧ L ≤ 100000 ∧ si = .int .i64 (i : Int) ∧ sl = .int .i64 L ∧ Hid (leftL (ds.drop i) (deep + 1) L = r) ∧ Hid (Boxed w wr (.mk 3 [] ks ds) (.int .i64 3) (.string ⟨#[]⟩) (.slice a s kcap) (.slice A s cap))) (fun _ si _ => s - (intOf si).toNat)
 case atStart => exact ⟨0, left - 1, Nat.zero_le _, by omega, by omega, rfl, rfl, HRL, hid (sB_boxed (w := w) (by assumption))⟩
 case round =>
  clear HB0 HRL
  obtain ⟨i, L, hi, hL0, hL1, rfl, rfl, HRL, HB⟩ := hrel
  obtain ⟨x0, x1, x2, x3⟩ := HB.out.2.1.cells
  by_cases hin : i < s
  ·have hil : i < ds.length := by rw [HN.out]; exact hin
   have hiz : (i : Int) < (s : Int) := by omega
   obtain ⟨b, o, e0, e1, e2, e3, rfl, hb, y0, y1, y2, y3, hnd⟩ := HB.out.2.2.kid i hil
   have hck : cntT (ds[i]'hil) ≤ cntL ds := cntL_mem (List.getElem_mem hil)
   obtain ⟨q, hq⟩ : ∃ q, leftT (ds[i]'hil) (deep + 1) L = q := ⟨_, rfl⟩
   have hrg := leftT_range (ds[i]'hil) (deep + 1) L
   have hnx := leftL_next hil (deep + 1) L
   rw [hq] at hrg hnx
   have HR := hid (HIH.out (ds[i]'hil) (by have := HCN.out; omega) (deep + 1) L q (by omega) (by omega) hL0 hL1 hq e0 e1 e2 e3 wr hnd)
   have ed : IntKind.i64.wrap (deep + 1) = deep + 1 := IntWalk.i64_in _ (by omega)
   by_cases hneg : q < 0
   ·have HE : Hid (r = -1) := hid (by rw [← HRL.out, hnx, if_pos hneg])
    clear hnd hck hrg hnx hq
    go_wp2_with (go_at_call 42; refine HR.out.mono ?_; rintro e w2 ⟨rfl, hb2⟩)
    go_ret
    exact ⟨ret_int HE.out.symm, (HB.out.go hb2).1⟩
   ·have HN2 : Hid (leftL (ds.drop (i + 1)) (deep + 1) q = r) := hid (by rw [← HRL.out, hnx, if_neg hneg])
    have hq1 : q ≤ 100000 := by rcases hrg with h | ⟨_, h⟩ <;> omega
    clear hnd hck hrg hnx hq
    go_wp2_with (go_at_call 42; refine HR.out.mono ?_; rintro e w2 ⟨rfl, hb2⟩)
    have HB2 := hid (HB.out.go hb2)
    clear hb2
    go_roundw
    case measure => simp [intOf]; omega
    case rel => exact ⟨i + 1, q, by omega, by omega, hq1, by go_num, rfl, HN2, HB2⟩
  ·obtain rfl : i = s := by omega
   have HE : Hid (L = r) := hid (by rw [← HRL.out, List.drop_of_length_le (by rw [HN.out]; exact Nat.le_refl _), leftL])
   go_wp2
   go_ret
   exact ⟨ret_int HE.out, HB.out.1⟩
theorem left_out (k : Int) (t : L8) (ks : List L8) (ds : List Nd) (deep left r : Int) (hd0 : 0 ≤ deep) (hd1 : deep ≤ 13) (hl0 : 0 ≤ left) (hl1 : left ≤ 100000) (hout : left - 1 < 0 ∨ 12 < deep ∨ k < 0 ∨ 3 < k) (hr : leftT (.mk k t ks ds) deep left = r) (c0 c1 c2 c3 : Value) (w : World) (hd : NdW w (.mk k t ks ds) c0 c1 c2 c3) :
  Calls Tryz.prog 42 #[.agg #[c0, c1, c2, c3], .int .i64 deep, .int .i64 left] w fun e w' => e = .returned (.int .i64 r) ∧ Below w.heap.size w w' := by
 have HB0 := hid (Boxed.make hd)
 obtain ⟨rfl, -, -, -⟩ := hd.parts
 rw [leftT, if_pos hout] at hr
 have HE : Hid (r = -1) := hid hr.symm
 have el : IntKind.i64.wrap (left - 1) = left - 1 := IntWalk.i64_in _ (by omega)
 obtain ⟨x0, x1, x2, x3⟩ := HB0.out.2.1.cells
 clear hr hd
 by_cases g0 : left - 1 < 0
 ·clear hout
  go_enter Tryz.func42, Tryz.ntmps42
  go_wp2
  go_ret
  exact ⟨ret_int HE.out.symm, HB0.out.1⟩
 by_cases g1 : 12 < deep
 ·clear hout
  go_enter Tryz.func42, Tryz.ntmps42
  go_wp2
  go_ret
  exact ⟨ret_int HE.out.symm, HB0.out.1⟩
 by_cases g2 : k < 0
 ·clear hout
  go_enter Tryz.func42, Tryz.ntmps42
  go_wp2
  go_ret
  exact ⟨ret_int HE.out.symm, HB0.out.1⟩
 ·have g3 : 3 < k := by omega
  clear hout
  go_enter Tryz.func42, Tryz.ntmps42
  go_wp2
  go_ret
  exact ⟨ret_int HE.out.symm, HB0.out.1⟩
theorem RLeft_any : ∀ N, LeftOf N := by
 intro N
 induction N with
 | zero => intro d h; have := cntT_pos d; omega
 | succ N ih =>
  intro d hN deep left r hd0 hd1 hl0 hl1 hr c0 c1 c2 c3 w hd
  cases d with
  | mk k t ks ds =>
   have hcN : cntL ds ≤ N := by rw [cntT] at hN; omega
   by_cases hout : left - 1 < 0 ∨ 12 < deep ∨ k < 0 ∨ 3 < k
   ·exact left_out k t ks ds deep left r hd0 hd1 hl0 hl1 hout hr c0 c1 c2 c3 w hd
   have hz : (0 : Nat) ≤ N := Nat.zero_le _
   have hk : k = 0 ∨ k = 1 ∨ k = 2 ∨ k = 3 := by omega
   rcases hk with rfl | rfl | rfl | rfl
   ·by_cases ht : t = []
    ·subst ht
     by_cases hks : ks = []
     ·subst hks
      by_cases hds : ds = []
      ·subst hds; exact left0_y N ih hcN deep left r hd0 (by omega) (by omega) hl1 hr c0 c1 c2 c3 w hd
      ·exact left0_d N ih ds hcN deep left r hd0 (by omega) (by omega) hl1 hr hds c0 c1 c2 c3 w hd
     ·exact left0_k N ih ks ds hcN deep left r hd0 (by omega) (by omega) hl1 hr hks c0 c1 c2 c3 w hd
    ·exact left0_t N ih t ks ds hcN deep left r hd0 (by omega) (by omega) hl1 hr ht c0 c1 c2 c3 w hd
   ·by_cases hks : ks = []
    ·subst hks
     by_cases hds : ds = []
     ·subst hds; exact left1_y N ih t hcN deep left r hd0 (by omega) (by omega) hl1 hr c0 c1 c2 c3 w hd
     ·exact left1_d N ih t ds hcN deep left r hd0 (by omega) (by omega) hl1 hr hds c0 c1 c2 c3 w hd
    ·exact left1_k N ih t ks ds hcN deep left r hd0 (by omega) (by omega) hl1 hr hks c0 c1 c2 c3 w hd
   ·by_cases ht : t = []
    ·subst ht
     by_cases hks : ks = []
     ·subst hks; exact left2_y N ih ds hcN deep left r hd0 (by omega) (by omega) hl1 hr c0 c1 c2 c3 w hd
     ·exact left2_k N ih ks ds hcN deep left r hd0 (by omega) (by omega) hl1 hr hks c0 c1 c2 c3 w hd
    ·exact left2_t N ih t ks ds hcN deep left r hd0 (by omega) (by omega) hl1 hr ht c0 c1 c2 c3 w hd
   ·by_cases ht : t = []
    ·subst ht
     by_cases q1 : ks.length = ds.length
     ·by_cases q3 : left - 1 < (ds.length : Int)
      ·exact left3_b N ih ks ds hcN deep left r hd0 (by omega) (by omega) hl1 hr q1 q3 c0 c1 c2 c3 w hd
      ·by_cases q4 : (sortL ks).length = ks.length
       ·exact left3_y N ih ks ds hcN deep left r hd0 (by omega) (by omega) hl1 hr q1 q3 q4 c0 c1 c2 c3 w hd
       ·exact left3_s N ih ks ds hcN deep left r hd0 (by omega) (by omega) hl1 hr q1 q3 q4 c0 c1 c2 c3 w hd
     ·exact left3_n N ih ks ds hcN deep left r hd0 (by omega) (by omega) hl1 hr q1 c0 c1 c2 c3 w hd
    ·exact left3_t N ih t ks ds hcN deep left r hd0 (by omega) (by omega) hl1 hr ht c0 c1 c2 c3 w hd
end
section
open Go.RowKit Go.Sort
open Nw N8
theorem RRight_any (d : Nd) (r : Bool) (hr : okT 2000 d = r) (c0 c1 c2 c3 : Value) (w : World) (hd : NdW w d c0 c1 c2 c3) :
  Calls Tryz.prog 21 #[.agg #[c0, c1, c2, c3]] w fun e w' => e = .returned (.bool r) ∧ Below w.heap.size w w' := by
 have HB0 := hid (Boxed.make hd)
 have HC := hid (fun W r hW => RLeft_any (cntT d) d (Nat.le_refl _) 1 2000 r (by decide) (by decide) (by decide) (by decide) hW c0 c1 c2 c3 W)
 obtain ⟨x, hx⟩ : ∃ x, leftT d 1 2000 = x := ⟨_, rfl⟩
 have HX := hid hx
 have HR : Hid (decide (0 ≤ x) = r) := hid (by rw [← hr, okT, hx])
 clear hx hr hd
 obtain ⟨x0, x1, x2, x3⟩ := HB0.out.2.1.cells
 go_enter Tryz.func21, Tryz.ntmps21
 by_cases hx0 : 0 ≤ x
 ·go_wp2_with (go_at_call 42; refine (HC.out _ x HX.out HB0.out.2.2).mono ?_; rintro e w1 ⟨rfl, hb1⟩)
  go_ret
  exact ⟨ret_b (by rw [← HR.out, decide_eq_true hx0]), (HB0.out.go hb1).1⟩
 ·have HE : Hid (r = false) := hid (by rw [← HR.out, decide_eq_false hx0])
  go_wp2_with (go_at_call 42; refine (HC.out _ x HX.out HB0.out.2.2).mono ?_; rintro e w1 ⟨rfl, hb1⟩)
  go_ret
  exact ⟨ret_b HR.out, (HB0.out.go hb1).1⟩
theorem nd_nul (S : Nat → Prop) (w : World) : NdC S w nul (.int .i64 0) (.string ⟨#[]⟩) (.slice none 0 0) (.slice none 0 0) := by
 unfold nul
 rw [NdC]
 refine ⟨rfl, rfl, ?_, none, 0, rfl, Nat.zero_le _, Nat.zero_le _, fun _ => rfl, ?_⟩
 ·exact ⟨none, 0, rfl, Nat.zero_le _, Nat.zero_le _, .inl ⟨rfl, fun _ => rfl⟩⟩
 ·rw [NdK]; trivial
end
end Go.Proofs.YtecglpocmhkkiaaGreatDoor
namespace Go.Proofs.YtecglpocmhkkiaaGreatDoor
namespace B10
open Nw N8 Q6 F9
def kidS (n : Nat) (x : Ln) (l : List Ln) : Res := if 1 < x.text.length then blkB (cut1 x :: l) else if deep n l then (blkB l).more 1 else .ok nul 1
def kidM (n : Nat) (x : Ln) (l : List Ln) (r : L8) : Res := if r ≠ [] then valL r x.no else if deep n l || even n l then (blkB l).more 1 else .ok nul 1
def nextS (n : Nat) (ad : List Nd) (l : List Ln) : Res → Res
 | .bad no e => .bad no e
 | .ok d k => (seqB n (ad ++ [d]) (l.drop (k - 1))).more (k - 1 + 1)
def nextM (n : Nat) (ak : List L8) (ad : List Nd) (l : List Ln) (y : L8) : Res → Res
 | .bad no e => .bad no e
 | .ok d k => (mapB n (ak ++ [y]) (ad ++ [d]) (l.drop (k - 1))).more (k - 1 + 1)
theorem blk_seq {x : Ln} {l : List Ln} (h : hyp x.text = true) : blkB (x :: l) = seqB x.ind [] (x :: l) := by rw [blkB, if_pos h]
theorem blk_map {x : Ln} {l : List Ln} {p : L8 × L8} (h : hyp x.text = false) (he : entP x.text = some (some p)) : blkB (x :: l) = mapB x.ind [] [] (x :: l) := by
 rw [blkB, if_neg (by rw [h]; decide), he]
theorem blk_val {x : Ln} {l : List Ln} (h : hyp x.text = false) (he : entP x.text = some none) : blkB (x :: l) = valL x.text x.no := by
 rw [blkB, if_neg (by rw [h]; decide), he]
theorem blk_bad {x : Ln} {l : List Ln} (h : hyp x.text = false) (he : entP x.text = none) : blkB (x :: l) = .bad x.no 3 := by
 rw [blkB, if_neg (by rw [h]; decide), he]
theorem seq_nil (n : Nat) (ad : List Nd) : seqB n ad [] = .ok (.mk 2 [] [] ad) 0 := by rw [seqB]
theorem seq_low {n : Nat} {ad : List Nd} {x : Ln} {l : List Ln} (h : x.ind < n) : seqB n ad (x :: l) = .ok (.mk 2 [] [] ad) 0 := by rw [seqB, if_pos h]
theorem seq_high {n : Nat} {ad : List Nd} {x : Ln} {l : List Ln} (h : n < x.ind) : seqB n ad (x :: l) = .bad x.no 3 := by rw [seqB, if_neg (by omega), if_pos h]
theorem seq_other {n : Nat} {ad : List Nd} {x : Ln} {l : List Ln} (h : x.ind = n) (hy : hyp x.text = false) : seqB n ad (x :: l) = .ok (.mk 2 [] [] ad) 0 := by
 rw [seqB, if_neg (by omega), if_neg (by omega), if_pos hy]
theorem seq_kid {n : Nat} {ad : List Nd} {x : Ln} {l : List Ln} (h : x.ind = n) (hy : hyp x.text = true) : seqB n ad (x :: l) = nextS n ad l (kidS n x l) := by
 rw [seqB, if_neg (by omega), if_neg (by omega), if_neg (by rw [hy]; decide)]
 unfold kidS
 by_cases h1 : 1 < x.text.length
 ·rw [dif_pos h1, if_pos h1]
  cases blkB (cut1 x :: l) <;> rfl
 ·rw [dif_neg h1, if_neg h1]
  cases (if deep n l = true then (blkB l).more 1 else Res.ok nul 1) <;> rfl
theorem map_nil (n : Nat) (ak : List L8) (ad : List Nd) : mapB n ak ad [] = .ok (.mk 3 [] ak ad) 0 := by rw [mapB]
theorem map_low {n : Nat} {ak : List L8} {ad : List Nd} {x : Ln} {l : List Ln} (h : x.ind < n) : mapB n ak ad (x :: l) = .ok (.mk 3 [] ak ad) 0 := by rw [mapB, if_pos h]
theorem map_high {n : Nat} {ak : List L8} {ad : List Nd} {x : Ln} {l : List Ln} (h : n < x.ind) : mapB n ak ad (x :: l) = .bad x.no 3 := by rw [mapB, if_neg (by omega), if_pos h]
theorem map_bad {n : Nat} {ak : List L8} {ad : List Nd} {x : Ln} {l : List Ln} (h : x.ind = n) (he : entP x.text = none) : mapB n ak ad (x :: l) = .bad x.no 3 := by
 rw [mapB, if_neg (by omega), if_neg (by omega), he]
theorem map_other {n : Nat} {ak : List L8} {ad : List Nd} {x : Ln} {l : List Ln} (h : x.ind = n) (he : entP x.text = some none) : mapB n ak ad (x :: l) = .ok (.mk 3 [] ak ad) 0 := by
 rw [mapB, if_neg (by omega), if_neg (by omega), he]
theorem map_twice {n : Nat} {ak : List L8} {ad : List Nd} {x : Ln} {l : List Ln} {y r : L8} (h : x.ind = n) (he : entP x.text = some (some (y, r))) (hy : y ∈ ak) : mapB n ak ad (x :: l) = .bad x.no 3 := by
 rw [mapB, if_neg (by omega), if_neg (by omega), he]
 exact if_pos hy
theorem map_kid {n : Nat} {ak : List L8} {ad : List Nd} {x : Ln} {l : List Ln} {y r : L8} (h : x.ind = n) (he : entP x.text = some (some (y, r))) (hy : y ∉ ak) : mapB n ak ad (x :: l) = nextM n ak ad l y (kidM n x l r) := by
 rw [mapB, if_neg (by omega), if_neg (by omega), he]
 show (if y ∈ ak then _ else _) = _
 rw [if_neg hy]
 show (match kidM n x l r with | .bad no e => Res.bad no e | .ok d k => (mapB n (ak ++ [y]) (ad ++ [d]) (l.drop (k - 1))).more (k - 1 + 1)) = _
 cases kidM n x l r <;> rfl
theorem val_one {l : L8} {no : Nat} {d : Nd} {k : Nat} (h : valL l no = .ok d k) : k = 1 := by
 unfold valL at h
 split at h
 ·split at h
  ·injection h with h1 h2; exact h2.symm
  ·cases h
 ·split at h
  ·cases h
  ·injection h with h1 h2; exact h2.symm
theorem more_ok {j : Nat} {r : Res} {d : Nd} {k : Nat} (h : r.more j = .ok d k) : ∃ m, r = .ok d m ∧ k = j + m := by
 cases r with
 | bad no e => cases h
 | ok d2 m => injection h with h1 h2; exact ⟨m, by rw [h1], h2.symm⟩
theorem blk_facts : ∀ (N : Nat),
  (∀ x l, 2 * big (x :: l) + 1 ≤ N → ∀ d k, blkB (x :: l) = .ok d k → 1 ≤ k ∧ k ≤ (x :: l).length) ∧
  (∀ n ad l, 2 * big l ≤ N → ∀ d k, seqB n ad l = .ok d k → k ≤ l.length ∧ (∀ x t, l = x :: t → x.ind = n → hyp x.text = true → 1 ≤ k)) ∧
  (∀ n ak ad l, 2 * big l ≤ N → ∀ d k, mapB n ak ad l = .ok d k → k ≤ l.length ∧ (∀ x t p, l = x :: t → x.ind = n → entP x.text = some (some p) → 1 ≤ k)) := by
 intro N
 induction N with
 | zero =>
  refine ⟨fun x l h => absurd h (by omega), fun n ad l h d k hk => ?_, fun n ak ad l h d k hk => ?_⟩
  ·cases l with
   | nil =>
    rw [seq_nil] at hk
    injection hk with h1 h2
    exact ⟨by omega, fun x t e => by cases e⟩
   | cons x l => simp only [big] at h; omega
  ·cases l with
   | nil =>
    rw [map_nil] at hk
    injection hk with h1 h2
    exact ⟨by omega, fun x t p e => by cases e⟩
   | cons x l => simp only [big] at h; omega
 | succ N ih =>
  obtain ⟨ih1, ih2, ih3⟩ := ih
  have drop_len : ∀ (l : List Ln) (k m : Nat), 1 ≤ k → k ≤ l.length + 1 → m ≤ (l.drop (k - 1)).length → k - 1 + 1 + m ≤ l.length + 1 := fun l k m h1 h2 h3 => by
   rw [List.length_drop] at h3; omega
  refine ⟨fun x l h d k hk => ?_, fun n ad l h d k hk => ?_, fun n ak ad l h d k hk => ?_⟩
  ·cases hh : hyp x.text with
   | true =>
    rw [blk_seq hh] at hk
    have h2 := ih2 x.ind [] (x :: l) (by omega) d k hk
    exact ⟨h2.2 x l rfl rfl hh, h2.1⟩
   | false =>
    cases he : entP x.text with
    | none => rw [blk_bad hh he] at hk; cases hk
    | some o =>
     cases o with
     | none =>
      rw [blk_val hh he] at hk
      have := val_one hk
      exact ⟨by omega, by simp; omega⟩
     | some p =>
      rw [blk_map hh he] at hk
      have h2 := ih3 x.ind [] [] (x :: l) (by omega) d k hk
      exact ⟨h2.2 x l p rfl rfl he, h2.1⟩
  ·cases l with
   | nil =>
    rw [seq_nil] at hk
    injection hk with h1 h2
    exact ⟨by omega, fun x t e => by cases e⟩
   | cons x l =>
    have hbig : big (x :: l) = 1 + x.text.length + big l := rfl
    rcases Nat.lt_trichotomy x.ind n with hlt | heq | hgt
    ·rw [seq_low hlt] at hk
     injection hk with h1 h2
     exact ⟨by omega, fun y t e he => by injection e with e1 e2; subst e1; omega⟩
    ·cases hh : hyp x.text with
     | false =>
      rw [seq_other heq hh] at hk
      injection hk with h1 h2
      exact ⟨by omega, fun y t e _ he => by injection e with e1 e2; subst e1; rw [hh] at he; cases he⟩
     | true =>
      rw [seq_kid heq hh] at hk
      have hkid : ∀ d2 k2, kidS n x l = .ok d2 k2 → 1 ≤ k2 ∧ k2 ≤ l.length + 1 := fun d2 k2 h2 => by
       unfold kidS at h2
       split at h2
       ·rename_i h1
        have hc := cut1_lt h1
        have := ih1 (cut1 x) l (by simp only [big]; omega) d2 k2 h2
        exact ⟨this.1, by simpa using this.2⟩
       ·split at h2
        ·obtain ⟨m, hm1, hm2⟩ := more_ok h2
         cases l with
         | nil => rename_i hdp; cases hdp
         | cons z l =>
          have := ih1 z l (by simp only [big] at h ⊢; omega) d2 m hm1
          have h3 := this.2
          exact ⟨by omega, by omega⟩
        ·injection h2 with h3 h4
         exact ⟨by omega, by omega⟩
      cases hkr : kidS n x l with
      | bad no e => rw [hkr] at hk; cases hk
      | ok d2 k2 =>
       rw [hkr] at hk
       obtain ⟨m, hm1, hm2⟩ := more_ok hk
       have hb := big_drop (k2 - 1) l
       have h2 := ih2 n (ad ++ [d2]) (l.drop (k2 - 1)) (by omega) d m hm1
       obtain ⟨h5, h6⟩ := hkid d2 k2 hkr
       have := drop_len l k2 m h5 h6 h2.1
       exact ⟨by rw [List.length_cons]; omega, fun _ _ _ _ _ => by omega⟩
    ·rw [seq_high hgt] at hk; cases hk
  ·cases l with
   | nil =>
    rw [map_nil] at hk
    injection hk with h1 h2
    exact ⟨by omega, fun x t p e => by cases e⟩
   | cons x l =>
    have hbig : big (x :: l) = 1 + x.text.length + big l := rfl
    rcases Nat.lt_trichotomy x.ind n with hlt | heq | hgt
    ·rw [map_low hlt] at hk
     injection hk with h1 h2
     exact ⟨by omega, fun y t p e he => by injection e with e1 e2; subst e1; omega⟩
    ·cases he : entP x.text with
     | none => rw [map_bad heq he] at hk; cases hk
     | some o =>
      cases o with
      | none =>
       rw [map_other heq he] at hk
       injection hk with h1 h2
       exact ⟨by omega, fun y t p e _ h9 => by injection e with e1 e2; subst e1; rw [he] at h9; cases h9⟩
      | some p =>
       obtain ⟨y, r⟩ := p
       by_cases hy : y ∈ ak
       ·rw [map_twice heq he hy] at hk; cases hk
       ·rw [map_kid heq he hy] at hk
        have hkid : ∀ d2 k2, kidM n x l r = .ok d2 k2 → 1 ≤ k2 ∧ k2 ≤ l.length + 1 := fun d2 k2 h2 => by
         unfold kidM at h2
         split at h2
         ·have := val_one h2
          exact ⟨by omega, by omega⟩
         ·split at h2
          ·obtain ⟨m, hm1, hm2⟩ := more_ok h2
           cases l with
           | nil => rename_i hdp; cases hdp
           | cons z l =>
            have := ih1 z l (by simp only [big] at h ⊢; omega) d2 m hm1
            have h3 := this.2
            exact ⟨by omega, by omega⟩
          ·injection h2 with h3 h4
           exact ⟨by omega, by omega⟩
        cases hkr : kidM n x l r with
        | bad no e => rw [hkr] at hk; cases hk
        | ok d2 k2 =>
         rw [hkr] at hk
         obtain ⟨m, hm1, hm2⟩ := more_ok hk
         have hb := big_drop (k2 - 1) l
         have h2 := ih3 n (ak ++ [y]) (ad ++ [d2]) (l.drop (k2 - 1)) (by omega) d m hm1
         obtain ⟨h5, h6⟩ := hkid d2 k2 hkr
         have := drop_len l k2 m h5 h6 h2.1
         exact ⟨by rw [List.length_cons]; omega, fun _ _ _ _ _ _ => by omega⟩
    ·rw [map_high hgt] at hk; cases hk
theorem blk_took {x : Ln} {l : List Ln} {d : Nd} {k : Nat} (h : blkB (x :: l) = .ok d k) : 1 ≤ k ∧ k ≤ l.length + 1 := (blk_facts _).1 x l (Nat.le_refl _) d k h
end B10
end Go.Proofs.YtecglpocmhkkiaaGreatDoor
namespace Go.Proofs.YtecglpocmhkkiaaGreatDoor
namespace B10
open Nw N8 Q6 F9
theorem val_err {l : L8} {no n : Nat} {e : Int} (h : valL l no = .bad n e) : e ≠ 0 := by
 unfold valL at h
 split at h
 ·split at h
  ·cases h
  ·rename_i h0
   injection h with h1 h2
   rw [← h2]; exact h0
 ·split at h
  ·injection h with h1 h2; omega
  ·cases h
theorem more_bad {j : Nat} {r : Res} {n : Nat} {e : Int} (h : r.more j = .bad n e) : r = .bad n e := by
 cases r with
 | bad n2 e2 => exact h
 | ok d m => cases h
theorem blk_errs : ∀ (N : Nat),
  (∀ x l, 2 * big (x :: l) + 1 ≤ N → ∀ n e, blkB (x :: l) = .bad n e → e ≠ 0) ∧
  (∀ n ad l, 2 * big l ≤ N → ∀ n2 e, seqB n ad l = .bad n2 e → e ≠ 0) ∧
  (∀ n ak ad l, 2 * big l ≤ N → ∀ n2 e, mapB n ak ad l = .bad n2 e → e ≠ 0) := by
 intro N
 induction N with
 | zero =>
  refine ⟨fun x l h => absurd h (by omega), fun n ad l h n2 e hk => ?_, fun n ak ad l h n2 e hk => ?_⟩
  ·cases l with
   | nil => rw [seq_nil] at hk; cases hk
   | cons x l => simp only [big] at h; omega
  ·cases l with
   | nil => rw [map_nil] at hk; cases hk
   | cons x l => simp only [big] at h; omega
 | succ N ih =>
  obtain ⟨ih1, ih2, ih3⟩ := ih
  refine ⟨fun x l h n e hk => ?_, fun n ad l h n2 e hk => ?_, fun n ak ad l h n2 e hk => ?_⟩
  ·cases hh : hyp x.text with
   | true =>
    rw [blk_seq hh] at hk
    exact ih2 x.ind [] (x :: l) (by omega) n e hk
   | false =>
    cases he : entP x.text with
    | none => rw [blk_bad hh he] at hk; injection hk with h1 h2; omega
    | some o =>
     cases o with
     | none => rw [blk_val hh he] at hk; exact val_err hk
     | some p => rw [blk_map hh he] at hk; exact ih3 x.ind [] [] (x :: l) (by omega) n e hk
  ·cases l with
   | nil => rw [seq_nil] at hk; cases hk
   | cons x l =>
    have hbig : big (x :: l) = 1 + x.text.length + big l := rfl
    rcases Nat.lt_trichotomy x.ind n with hlt | heq | hgt
    ·rw [seq_low hlt] at hk; cases hk
    ·cases hh : hyp x.text with
     | false => rw [seq_other heq hh] at hk; cases hk
     | true =>
      rw [seq_kid heq hh] at hk
      have hkid : ∀ n2 e, kidS n x l = .bad n2 e → e ≠ 0 := fun n2 e h2 => by
       unfold kidS at h2
       split at h2
       ·rename_i h1
        have hc := cut1_lt h1
        exact ih1 (cut1 x) l (by simp only [big]; omega) n2 e h2
       ·split at h2
        ·replace h2 := more_bad h2
         cases l with
         | nil => rename_i hdp; cases hdp
         | cons z l => exact ih1 z l (by simp only [big] at h ⊢; omega) n2 e h2
        ·cases h2
      cases hkr : kidS n x l with
      | bad n3 e3 => rw [hkr] at hk; injection hk with h1 h2; rw [← h2]; exact hkid n3 e3 hkr
      | ok d2 k2 =>
       rw [hkr] at hk
       have hb := big_drop (k2 - 1) l
       exact ih2 n (ad ++ [d2]) (l.drop (k2 - 1)) (by omega) n2 e (more_bad hk)
    ·rw [seq_high hgt] at hk; injection hk with h1 h2; omega
  ·cases l with
   | nil => rw [map_nil] at hk; cases hk
   | cons x l =>
    have hbig : big (x :: l) = 1 + x.text.length + big l := rfl
    rcases Nat.lt_trichotomy x.ind n with hlt | heq | hgt
    ·rw [map_low hlt] at hk; cases hk
    ·cases he : entP x.text with
     | none => rw [map_bad heq he] at hk; injection hk with h1 h2; omega
     | some o =>
      cases o with
      | none => rw [map_other heq he] at hk; cases hk
      | some p =>
       obtain ⟨y, r⟩ := p
       by_cases hy : y ∈ ak
       ·rw [map_twice heq he hy] at hk; injection hk with h1 h2; omega
       ·rw [map_kid heq he hy] at hk
        have hkid : ∀ n2 e, kidM n x l r = .bad n2 e → e ≠ 0 := fun n2 e h2 => by
         unfold kidM at h2
         split at h2
         ·exact val_err h2
         ·split at h2
          ·replace h2 := more_bad h2
           cases l with
           | nil => rename_i hdp; cases hdp
           | cons z l => exact ih1 z l (by simp only [big] at h ⊢; omega) n2 e h2
          ·cases h2
        cases hkr : kidM n x l r with
        | bad n3 e3 => rw [hkr] at hk; injection hk with h1 h2; rw [← h2]; exact hkid n3 e3 hkr
        | ok d2 k2 =>
         rw [hkr] at hk
         have hb := big_drop (k2 - 1) l
         exact ih3 n (ak ++ [y]) (ad ++ [d2]) (l.drop (k2 - 1)) (by omega) n2 e (more_bad hk)
    ·rw [map_high hgt] at hk; injection hk with h1 h2; omega
theorem blk_err {x : Ln} {l : List Ln} {n : Nat} {e : Int} (h : blkB (x :: l) = .bad n e) : e ≠ 0 := (blk_errs _).1 x l (Nat.le_refl _) n e h
theorem kids_err {n : Nat} {x : Ln} {l : List Ln} {n2 : Nat} {e : Int} (h : kidS n x l = .bad n2 e) : e ≠ 0 := by
 unfold kidS at h
 split at h
 ·exact blk_err h
 ·split at h
  ·replace h := more_bad h
   cases l with
   | nil => rename_i hdp; cases hdp
   | cons z l => exact blk_err h
  ·cases h
theorem kidm_err {n : Nat} {x : Ln} {l : List Ln} {r : L8} {n2 : Nat} {e : Int} (h : kidM n x l r = .bad n2 e) : e ≠ 0 := by
 unfold kidM at h
 split at h
 ·exact val_err h
 ·split at h
  ·replace h := more_bad h
   cases l with
   | nil => rename_i hdp; cases hdp
   | cons z l => exact blk_err h
  ·cases h
end B10
end Go.Proofs.YtecglpocmhkkiaaGreatDoor
namespace Go.Proofs.YtecglpocmhkkiaaGreatDoor
namespace Q6
theorem getD_take {l : List UInt8} {j k : Nat} (h : k < j) : (l.take j).getD k 0 = l.getD k 0 := by
 rw [List.getD_eq_getElem?_getD, List.getD_eq_getElem?_getD, List.getElem?_take_of_lt h]
end Q6
end Go.Proofs.YtecglpocmhkkiaaGreatDoor
namespace Go.Proofs.YtecglpocmhkkiaaGreatDoor
namespace Q6
theorem drop_indN (l : List UInt8) (h : indN l < l.length) : l.getD (indN l) 0 ≠ 32 := by
 unfold indN at h ⊢
 induction l with
 | nil => cases h
 | cons b l ih =>
  rw [List.takeWhile_cons] at h ⊢
  by_cases hb : b = 32
  ·rw [decide_eq_true hb] at h ⊢
   simp only [if_true, List.length_cons] at h ⊢
   show l.getD _ 0 ≠ 32
   exact ih (by omega)
  ·rw [decide_eq_false hb]
   exact hb
theorem takeWhile_le (p : UInt8 → Bool) (l : List UInt8) : (l.takeWhile p).length ≤ l.length := by
 induction l with
 | nil => exact Nat.le_refl _
 | cons b l ih =>
  rw [List.takeWhile_cons]
  split
  ·rw [List.length_cons, List.length_cons]; omega
  ·exact Nat.zero_le _
theorem indN_le (l : List UInt8) : indN l ≤ l.length := by unfold indN; exact takeWhile_le _ _
end Q6
end Go.Proofs.YtecglpocmhkkiaaGreatDoor
namespace Go.Proofs.YtecglpocmhkkiaaGreatDoor
namespace B10
open Nw N8 Q6 F9
theorem one_small {row t : L8} {k : Nat} (h : oneL row = some (k, t)) : k + t.length ≤ row.length := by
 unfold oneL at h
 have h1 : indN row ≤ row.length := indN_le _
 cases hs : sayL (row.drop (indN row)) with
 | none => rw [hs] at h; cases h
 | some t2 =>
  rw [hs] at h
  have h : (if indN row = 0 ∧ marker t2 = true then none else some (indN row, t2)) = some (k, t) := h
  split at h
  ·cases h
  ·injection h with h
   injection h with h2 h3
   subst h2; subst h3
   unfold sayL at hs
   cases he : endAt (row.drop (indN row)) 0 with
   | none => rw [he] at hs; cases hs
   | some e =>
    rw [he] at hs
    injection hs with hs
    rw [← hs, List.length_take, List.length_drop]
    omega
theorem split_small : ∀ (N : Nat) (l : L8), l.length ≤ N → ∀ no acc ls n E, splitL no acc l = (ls, n, E) → ls.length ≤ acc.length + l.length ∧ ∀ x ∈ ls, x ∈ acc ∨ x.ind + x.text.length ≤ l.length := by
 intro N
 induction N with
 | zero =>
  intro l hl no acc ls n E h
  obtain rfl : l = [] := List.length_eq_zero_iff.1 (by omega)
  rw [splitL, dif_pos rfl] at h
  injection h with h1 h2
  subst h1
  exact ⟨by omega, fun x hx => .inl hx⟩
 | succ N ih =>
  intro l hl no acc ls n E h
  by_cases h0 : l = []
  ·subst h0
   rw [splitL, dif_pos rfl] at h
   injection h with h1 h2
   subst h1
   exact ⟨by omega, fun x hx => .inl hx⟩
  ·have hlp := List.length_pos_iff.2 h0
   cases h1 : oneL (l.take (rowN l)) with
   | none =>
    rw [splitL_bad h0 h1] at h
    injection h with h2 h3
    subst h2
    exact ⟨Nat.zero_le _, fun x hx => by cases hx⟩
   | some p =>
    obtain ⟨k, t⟩ := p
    rw [splitL_next h0 h1] at h
    have hd : (l.drop (rowN l + 1)).length = l.length - (rowN l + 1) := List.length_drop ..
    have ho := one_small h1
    have ht : (l.take (rowN l)).length ≤ l.length := by rw [List.length_take]; omega
    obtain ⟨a1, a2⟩ := ih (l.drop (rowN l + 1)) (by omega) _ _ ls n E h
    refine ⟨?_, fun x hx => ?_⟩
    ·split at a1
     ·omega
     ·rw [List.length_append, List.length_singleton] at a1; omega
    ·rcases a2 x hx with h2 | h2
     ·split at h2
      ·exact .inl h2
      ·rcases List.mem_append.1 h2 with h2 | h2
       ·exact .inl h2
       ·rw [List.mem_singleton] at h2
        subst h2
        exact .inr (Nat.le_trans ho ht)
     ·exact .inr (by omega)
theorem file_small {l : L8} {ls : List Ln} {n : Nat} {E : Int} (h : fileL l = (ls, n, E)) : ls.length ≤ 8192 ∧ ∀ x ∈ ls, x.ind + x.text.length ≤ 8192 := by
 unfold fileL at h
 split at h
 ·injection h with h1 h2
  subst h1
  exact ⟨Nat.zero_le _, fun x hx => by cases hx⟩
 ·obtain ⟨h1, h2⟩ := split_small _ l (Nat.le_refl _) 0 [] ls n E h
  exact ⟨by rw [List.length_nil] at h1; omega, fun x hx => by
   rcases h2 x hx with h3 | h3
   ·cases h3
   ·omega⟩
def parK (L : List Ln) : Res → Nd × Nat × Int
 | .bad no e => (nul, no, e)
 | .ok d k => match L.drop k with
  | y :: _ => (nul, y.no, 3)
  | [] => if okT 2000 d then (d, 0, 0) else (nul, 0, 9)
theorem par_err {l : L8} {ls : List Ln} {no : Nat} {E : Int} (h : fileL l = (ls, no, E)) (hE : E ≠ 0) : parB l = (nul, no, E) := by
 unfold parB
 rw [h]
 exact if_pos hE
theorem par_nil {l : L8} {no : Nat} (h : fileL l = ([], no, 0)) : parB l = (nul, 0, 0) := by
 unfold parB
 rw [h]
 rfl
theorem par_cons {l : L8} {x : Ln} {ls : List Ln} {no : Nat} (h : fileL l = (x :: ls, no, 0)) : parB l = parK (x :: ls) (blkB (x :: ls)) := by
 unfold parB
 rw [h]
 show (if (0 : Int) ≠ 0 then _ else _) = _
 rw [if_neg (by decide)]
 show (match blkB (x :: ls) with | .bad no e => _ | .ok d k => _) = _
 cases blkB (x :: ls) <;> rfl
theorem parK_low {L : List Ln} {d : Nd} {k : Nat} (h : k < L.length) : parK L (.ok d k) = (nul, (L[k]'h).no, 3) := by
 unfold parK
 show (match L.drop k with | y :: _ => _ | [] => _) = _
 rw [List.drop_eq_getElem_cons h]
theorem parK_end {L : List Ln} {d : Nd} {k : Nat} (h : L.length ≤ k) : parK L (.ok d k) = if okT 2000 d then (d, 0, 0) else (nul, 0, 9) := by
 unfold parK
 show (match L.drop k with | y :: _ => _ | [] => _) = _
 rw [List.drop_of_length_le h]
end B10
end Go.Proofs.YtecglpocmhkkiaaGreatDoor
namespace Go.Proofs.YtecglpocmhkkiaaGreatDoor
namespace B10
open Nw N8 Q6 F9
def exB : Nd := .mk 3 [] [[97]] [.mk 2 [] [] [txt [120], .mk 3 [] [[98], [99]] [txt [49], .mk 2 [] [] [txt [50]]]]]
theorem ex_file : fileL [97, 58, 10, 45, 32, 120, 10, 45, 32, 98, 58, 32, 49, 10, 32, 32, 99, 58, 32, 91, 50, 93, 10] = ([⟨1, 0, [97, 58]⟩, ⟨2, 0, [45, 32, 120]⟩, ⟨3, 0, [45, 32, 98, 58, 32, 49]⟩, ⟨4, 2, [99, 58, 32, 91, 50, 93]⟩], 0, 0) := by kernel_rfl
theorem ex_blk : blkB [⟨1, 0, [97, 58]⟩, ⟨2, 0, [45, 32, 120]⟩, ⟨3, 0, [45, 32, 98, 58, 32, 49]⟩, ⟨4, 2, [99, 58, 32, 91, 50, 93]⟩] = .ok exB 4 := by kernel_rfl
theorem ex_par10b : parB [97, 58, 32, 49, 10, 32, 32, 98, 58, 32, 50, 10] = (nul, 2, 3) := by kernel_rfl
end B10
end Go.Proofs.YtecglpocmhkkiaaGreatDoor
