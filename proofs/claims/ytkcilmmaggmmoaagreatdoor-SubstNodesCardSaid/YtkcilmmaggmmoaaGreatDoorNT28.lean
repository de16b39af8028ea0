/- RefSub1 -/
import Derived.Test.YtkcilmmaggmmoaaGreatDoorNT22
import Derived.Test.YtkcilmmaggmmoaaGreatDoorNT23
import Derived.Test.YtkcilmmaggmmoaaGreatDoorNT7
set_option linter.unusedVariables false
set_option linter.unusedSimpArgs false
set_option maxRecDepth 100000
set_option maxHeartbeats 16000000
open Go.Lib (hid)
namespace Go.Proofs.YtkcilmmaggmmoaaGreatDoor
namespace Nw
end Nw
namespace S14
end S14
namespace T13
end T13
namespace V12
end V12
end Go.Proofs.YtkcilmmaggmmoaaGreatDoor
namespace Go.Proofs.YtkcilmmaggmmoaaGreatDoor
section
open Go.RowKit Go.Sort
open Nw T13 V12 S14
def SaidV (r : SR) : Value := match r with
 | .ok t => .agg #[.string (ba t), .string ⟨#[]⟩, .string ⟨#[]⟩, .int .i64 0]
 | .err e k y => .agg #[.string ⟨#[]⟩, .string (ba k), .string (ba y), .int .i64 e]
def SayW (r : SR) (w : World) (e : Ending) (w' : World) : Prop := e = .returned (SaidV r) ∧ Below w.heap.size w w'
theorem bcell14 {W w1 : World} (hb : Below W.heap.size W w1) : (∀ b o, b < W.heap.size → w1.cell? ⟨b, o, none⟩ = W.cell? ⟨b, o, none⟩) ∧ (∀ b o, b < W.heap.size → w1.frozen? ⟨b, o, none⟩ = W.frozen? ⟨b, o, none⟩) :=
 ⟨fun b o h => hb.cell (p := ⟨b, o, none⟩) h, fun b o h => hb.frozen (p := ⟨b, o, none⟩) h⟩
theorem far4 (w3 : World) (B b o : Nat) (v0 v1 v2 v3 : Value) (h : B ≠ b) : ((((w3.setCell ⟨B, 0, none⟩ v0).setCell ⟨B, 1, none⟩ v1).setCell ⟨B, 2, none⟩ v2).setCell ⟨B, 3, none⟩ v3).cell? ⟨b, o, none⟩ = w3.cell? ⟨b, o, none⟩ := by
 rw [World.cell?_setCell_far _ _ _ _ h, World.cell?_setCell_far _ _ _ _ h, World.cell?_setCell_far _ _ _ _ h, World.cell?_setCell_far _ _ _ _ h]
theorem said_shape (r : SR) : ∃ a b c d, SaidV r = .agg #[.string a, .string b, .string c, .int .i64 d] := by
 cases r with
 | ok t => exact ⟨_, _, _, _, rfl⟩
 | err e k y => exact ⟨_, _, _, _, rfl⟩
theorem Rpart14 (l : List KV) (n t : L8) (o : Int) (s : List Pt) (c3 v : Value) (w : World) (hs : PtW w c3 s) (hv : VR w v l) (hN : cntL s < 1000000) (hT : (txtL s).length ≤ 1000000)
  (HPA : ∀ W, Below w.heap.size w W → Calls Tryz.prog 36 #[c3, v] W (SayW (sayL (lastV l) [] s) W)) :
  Calls Tryz.prog 50 #[.agg #[.string (ba n), .string (ba t), .int .i64 o, c3], v] w (SayW (sayP (lastV l) (.mk n t o s)) w) := by
 obtain ⟨X, hX⟩ : ∃ X, ba n = X := ⟨_, rfl⟩
 obtain ⟨Y, hY⟩ : ∃ Y, ba t = Y := ⟨_, rfl⟩
 have hXd : X.data.toList = n := by rw [← hX, ba_data]
 have HL0 := fun W (hW : Below w.heap.size w W) => RLast_any v l X W (hv.below hW)
 rw [hXd] at HL0
 unfold gotV gotB at HL0
 rw [hX, hY]
 obtain ⟨R, hR⟩ : ∃ R, sayP (lastV l) (.mk n t o s) = R := ⟨_, rfl⟩
 rw [hR]
 rw [sayP] at hR
 have HYD := hid hY
 have HXD := hid hX
 obtain ⟨q, hq⟩ := exq (txtL s)
 have HTX := hid (fun W (hW : Below w.heap.size w W) => RText13_any 1000000 s hN (Nat.le_refl _) hT c3 W (hs.below hW) q hq)
 have HQ : Hid (ba (txtL s) = q) := hid (by rw [← hq, ba_of])
 have HB2 : Hid (∀ (A B : Obj), Below w.heap.size w ((w.alloc A).alloc B)) := hid (fun A B => ((Below.refl _ _).alloc (Nat.le_refl _) _).alloc (by simp) _)
 obtain ⟨PS, hPS⟩ : ∃ PS, sayL (lastV l) [] s = PS := ⟨_, rfl⟩
 rw [hPS] at HPA hR
 obtain ⟨pa, pb, pc, pd, hpv⟩ := said_shape PS
 have HPS := hid hpv
 have HPA2 : Hid (∀ W, Below w.heap.size w W → Calls Tryz.prog 36 #[c3, v] W fun e w' => e = .returned (.agg #[.string pa, .string pb, .string pc, .int .i64 pd]) ∧ Below W.heap.size W w') := hid (fun W hW => (HPA W hW).mono fun e w' h => ⟨by rw [← hpv]; exact h.1, h.2⟩)
 clear HPA hs hv hN hT hq hPS hpv hXd hX hY
 by_cases h0 : o = 0
 ·have HR : Hid (R = .ok t) := hid (by rw [← hR, if_pos h0])
  subst h0
  clear hR HL0
  go_enter Tryz.func50, Tryz.ntmps50
  go_wp2
  exact bodyPost_ret (v := .agg #[.string Y, .string ⟨#[]⟩, .string ⟨#[]⟩, .int .i64 0]) (by simp [results, Tryz.results50, go_sem]) rfl ⟨by first | (rw [HR.out, ← HYD.out]; done) | (rw [HR.out, ← HYD.out]; rfl), (((Below.refl _ _).alloc (Nat.le_refl _) _).alloc (by simp) _)⟩
 rw [if_neg h0] at hR
 have b0 : (o == 0) = false := beq_eq_false_iff_ne.2 h0
 obtain ⟨m, hm⟩ : ∃ m, lastV l n = m := ⟨_, rfl⟩
 rw [hm] at HL0 hR
 obtain ⟨G, hG⟩ : ∃ G, ba (m.getD []) = G := ⟨_, rfl⟩
 obtain ⟨sb, hsb⟩ : ∃ sb, m.isSome = sb := ⟨_, rfl⟩
 rw [hG, hsb] at HL0
 have HL := hid HL0
 have HG := hid hG
 clear HL0 hm
 cases m with
 | none =>
  obtain rfl : sb = false := hsb.symm
  have gz : G.size = 0 := by rw [← hG]; rfl
  have gz2 : ¬ (0 : Int) < (G.size : Int) := by omega
  have gz3 : (G.size : Int) ≤ 0 := by omega
  clear hG hsb
  by_cases h2 : o = 2
  ·subst h2
   simp at hR
   have HR : Hid (R = PS) := hid hR.symm
   clear hR
   go_enter Tryz.func50, Tryz.ntmps50
   go_wp2_with first
    | (go_at_call 32; refine (HL.out _ (HB2.out _ _)).mono ?_; rintro e w2 ⟨rfl, rfl⟩)
    | (go_at_call 36; refine (HPA2.out _ (HB2.out _ _)).mono ?_; rintro e w4 ⟨rfl, hb4⟩; obtain ⟨hcb, hfb⟩ := bcell14 hb4)
   exact bodyPost_ret (v := .agg #[.string pa, .string pb, .string pc, .int .i64 pd]) (by simp [results, Tryz.results50, go_sem, hcb, hfb]) rfl ⟨by first | (rw [HR.out, HPS.out]; done) | (rw [HR.out, HPS.out]; rfl), ((((((HB2.out _ _).trans (hb4.mono (HB2.out _ _).size)).setCell (by simp) _).setCell (by simp) _).setCell (by simp) _).setCell (by simp) _)⟩
  have b2 : (o == 2) = false := beq_eq_false_iff_ne.2 h2
  by_cases h3 : o = 3
  ·subst h3
   simp [h2] at hR
   have HR : Hid (R = PS) := hid hR.symm
   clear hR
   go_enter Tryz.func50, Tryz.ntmps50
   go_wp2_with first
    | (go_at_call 32; refine (HL.out _ (HB2.out _ _)).mono ?_; rintro e w2 ⟨rfl, rfl⟩)
    | (go_at_call 36; refine (HPA2.out _ (HB2.out _ _)).mono ?_; rintro e w4 ⟨rfl, hb4⟩; obtain ⟨hcb, hfb⟩ := bcell14 hb4)
   exact bodyPost_ret (v := .agg #[.string pa, .string pb, .string pc, .int .i64 pd]) (by simp [results, Tryz.results50, go_sem, hcb, hfb]) rfl ⟨by first | (rw [HR.out, HPS.out]; done) | (rw [HR.out, HPS.out]; rfl), ((((((HB2.out _ _).trans (hb4.mono (HB2.out _ _).size)).setCell (by simp) _).setCell (by simp) _).setCell (by simp) _).setCell (by simp) _)⟩
  have b3 : (o == 3) = false := beq_eq_false_iff_ne.2 h3
  by_cases h6 : o = 6
  ·subst h6
   simp [h2, h3] at hR
   have HR : Hid (R = SR.ok []) := hid hR.symm
   clear hR
   go_enter Tryz.func50, Tryz.ntmps50
   go_wp2_with first
    | (go_at_call 32; refine (HL.out _ (HB2.out _ _)).mono ?_; rintro e w2 ⟨rfl, rfl⟩)
   exact bodyPost_ret (v := .agg #[.string ⟨#[]⟩, .string ⟨#[]⟩, .string ⟨#[]⟩, .int .i64 0]) (by simp [results, Tryz.results50, go_sem]) rfl ⟨by first | (rw [HR.out]; done) | (rw [HR.out]; rfl), (((Below.refl _ _).alloc (Nat.le_refl _) _).alloc (by simp) _)⟩
  have b6 : (o == 6) = false := beq_eq_false_iff_ne.2 h6
  by_cases h7 : o = 7
  ·subst h7
   simp [h2, h3, h6] at hR
   have HR : Hid (R = SR.ok []) := hid hR.symm
   clear hR
   go_enter Tryz.func50, Tryz.ntmps50
   go_wp2_with first
    | (go_at_call 32; refine (HL.out _ (HB2.out _ _)).mono ?_; rintro e w2 ⟨rfl, rfl⟩)
   exact bodyPost_ret (v := .agg #[.string ⟨#[]⟩, .string ⟨#[]⟩, .string ⟨#[]⟩, .int .i64 0]) (by simp [results, Tryz.results50, go_sem]) rfl ⟨by first | (rw [HR.out]; done) | (rw [HR.out]; rfl), (((Below.refl _ _).alloc (Nat.le_refl _) _).alloc (by simp) _)⟩
  have b7 : (o == 7) = false := beq_eq_false_iff_ne.2 h7
  by_cases h4 : o = 4
  ·subst h4
   simp [h2, h3, h6, h7] at hR
   have HR : Hid (R = SR.err 4 n (txtL s)) := hid hR.symm
   clear hR
   go_enter Tryz.func50, Tryz.ntmps50
   obtain ⟨M, hM⟩ : ∃ M, M = ((w.alloc (.cells #[.string X, .string Y, .int .i64 4, c3] 84)).alloc (.cells #[.string ⟨#[]⟩, .string ⟨#[]⟩, .string ⟨#[]⟩, .int .i64 0] 47)) := ⟨_, rfl⟩
   go_wp2_with (go_at_call 32; refine (HL.out _ (HB2.out _ _)).mono ?_; rintro e w2 ⟨rfl, rfl⟩)
   rw [← hM]
   have hc0 : M.cell? ⟨w.heap.size, 0, none⟩ = some (.string X) := by rw [hM]; simp [go_sem]
   have hc3 : M.cell? ⟨w.heap.size, 3, none⟩ = some c3 := by rw [hM]; simp [go_sem]
   have hms : M.heap.size = w.heap.size + 1 + 1 := by rw [hM]; simp
   have g0 : M.cell? ⟨w.heap.size + 1, 0, none⟩ = some (.string ⟨#[]⟩) ∧ M.cell? ⟨w.heap.size + 1, 1, none⟩ = some (.string ⟨#[]⟩) ∧ M.cell? ⟨w.heap.size + 1, 2, none⟩ = some (.string ⟨#[]⟩) ∧ M.cell? ⟨w.heap.size + 1, 3, none⟩ = some (.int .i64 0) := by rw [hM]; simp [go_sem]
   have g1 : M.frozen? ⟨w.heap.size + 1, 0, none⟩ = false ∧ M.frozen? ⟨w.heap.size + 1, 1, none⟩ = false ∧ M.frozen? ⟨w.heap.size + 1, 2, none⟩ = false ∧ M.frozen? ⟨w.heap.size + 1, 3, none⟩ = false := by rw [hM]; simp [go_sem]
   have HWM : Hid (Below w.heap.size w M) := hid (by rw [hM]; exact HB2.out _ _)
   have HTS : Hid (Calls Tryz.prog 66 #[c3] M.drew fun e w' => e = .returned (.string q) ∧ w'.cell? ⟨w.heap.size, 0, none⟩ = some (.string X) ∧ w'.cell? ⟨w.heap.size, 3, none⟩ = some c3 ∧ Below w.heap.size w w' ∧ Below M.heap.size M w') := hid ((HTX.out M.drew (HWM.out.trans ((below_drewN M 1).mono HWM.out.size))).mono fun e w' h =>
    ⟨h.1, (h.2.cell (p := ⟨w.heap.size, 0, none⟩) (by show w.heap.size < M.heap.size; omega)).trans hc0, (h.2.cell (p := ⟨w.heap.size, 3, none⟩) (by show w.heap.size < M.heap.size; omega)).trans hc3, HWM.out.trans (((below_drewN M 1).trans h.2).mono HWM.out.size), (below_drewN M 1).trans h.2⟩)
   clear hM
   have hbm : Below w.heap.size w M.drew := HWM.out.trans ((below_drewN M 1).mono HWM.out.size)
   go_region_held (fun w' => w'.cell? ⟨w.heap.size, 0, none⟩ = some (.string X) ∧ w'.cell? ⟨w.heap.size, 3, none⟩ = some c3 ∧ Below w.heap.size w w') (first | exact ⟨hS1, hS2, hS3⟩ | exact ⟨hc0, hc3, hbm⟩ | exact ⟨(far4 _ _ _ _ _ _ _ _ (by simp)).trans hS1, (far4 _ _ _ _ _ _ _ _ (by simp)).trans hS2, (((hS3.setCell (by simp) _).setCell (by simp) _).setCell (by simp) _).setCell (by simp) _⟩) (first | (go_at_call 66; refine HTS.out.mono ?_; rintro e w3 ⟨rfl, hS1, hS2, hS3, hS4⟩; obtain ⟨hcb, hfb⟩ := bcell14 hS4; (have k0 := (hcb (w.heap.size + 1) 0 (by omega)).trans g0.1); (have k1 := (hcb (w.heap.size + 1) 1 (by omega)).trans g0.2.1); (have k2 := (hcb (w.heap.size + 1) 2 (by omega)).trans g0.2.2.1); (have k3 := (hcb (w.heap.size + 1) 3 (by omega)).trans g0.2.2.2); (have m0 := (hfb (w.heap.size + 1) 0 (by omega)).trans g1.1); (have m1 := (hfb (w.heap.size + 1) 1 (by omega)).trans g1.2.1); (have m2 := (hfb (w.heap.size + 1) 2 (by omega)).trans g1.2.2.1); (have m3 := (hfb (w.heap.size + 1) 3 (by omega)).trans g1.2.2.2)))
   all_goals
    go_wp2
    clear hcb hfb
    exact bodyPost_ret (v := .agg #[.string ⟨#[]⟩, .string X, .string q, .int .i64 4]) (by simp [results, Tryz.results50, go_sem, k0, k1, k2, k3]) rfl ⟨by first | (rw [HR.out, ← HXD.out, ← HQ.out]; done) | (rw [HR.out, ← HXD.out, ← HQ.out]; rfl), (((hS3.setCell (by simp) _).setCell (by simp) _).setCell (by simp) _).setCell (by simp) _⟩
  have b4 : (o == 4) = false := beq_eq_false_iff_ne.2 h4
  by_cases h5 : o = 5
  ·subst h5
   simp [h2, h3, h6, h7, h4] at hR
   have HR : Hid (R = SR.err 4 n (txtL s)) := hid hR.symm
   clear hR
   go_enter Tryz.func50, Tryz.ntmps50
   obtain ⟨M, hM⟩ : ∃ M, M = ((w.alloc (.cells #[.string X, .string Y, .int .i64 5, c3] 84)).alloc (.cells #[.string ⟨#[]⟩, .string ⟨#[]⟩, .string ⟨#[]⟩, .int .i64 0] 47)) := ⟨_, rfl⟩
   go_wp2_with (go_at_call 32; refine (HL.out _ (HB2.out _ _)).mono ?_; rintro e w2 ⟨rfl, rfl⟩)
   rw [← hM]
   have hc0 : M.cell? ⟨w.heap.size, 0, none⟩ = some (.string X) := by rw [hM]; simp [go_sem]
   have hc3 : M.cell? ⟨w.heap.size, 3, none⟩ = some c3 := by rw [hM]; simp [go_sem]
   have hms : M.heap.size = w.heap.size + 1 + 1 := by rw [hM]; simp
   have g0 : M.cell? ⟨w.heap.size + 1, 0, none⟩ = some (.string ⟨#[]⟩) ∧ M.cell? ⟨w.heap.size + 1, 1, none⟩ = some (.string ⟨#[]⟩) ∧ M.cell? ⟨w.heap.size + 1, 2, none⟩ = some (.string ⟨#[]⟩) ∧ M.cell? ⟨w.heap.size + 1, 3, none⟩ = some (.int .i64 0) := by rw [hM]; simp [go_sem]
   have g1 : M.frozen? ⟨w.heap.size + 1, 0, none⟩ = false ∧ M.frozen? ⟨w.heap.size + 1, 1, none⟩ = false ∧ M.frozen? ⟨w.heap.size + 1, 2, none⟩ = false ∧ M.frozen? ⟨w.heap.size + 1, 3, none⟩ = false := by rw [hM]; simp [go_sem]
   have HWM : Hid (Below w.heap.size w M) := hid (by rw [hM]; exact HB2.out _ _)
   have HTS : Hid (Calls Tryz.prog 66 #[c3] M.drew fun e w' => e = .returned (.string q) ∧ w'.cell? ⟨w.heap.size, 0, none⟩ = some (.string X) ∧ w'.cell? ⟨w.heap.size, 3, none⟩ = some c3 ∧ Below w.heap.size w w' ∧ Below M.heap.size M w') := hid ((HTX.out M.drew (HWM.out.trans ((below_drewN M 1).mono HWM.out.size))).mono fun e w' h =>
    ⟨h.1, (h.2.cell (p := ⟨w.heap.size, 0, none⟩) (by show w.heap.size < M.heap.size; omega)).trans hc0, (h.2.cell (p := ⟨w.heap.size, 3, none⟩) (by show w.heap.size < M.heap.size; omega)).trans hc3, HWM.out.trans (((below_drewN M 1).trans h.2).mono HWM.out.size), (below_drewN M 1).trans h.2⟩)
   clear hM
   have hbm : Below w.heap.size w M.drew := HWM.out.trans ((below_drewN M 1).mono HWM.out.size)
   go_region_held (fun w' => w'.cell? ⟨w.heap.size, 0, none⟩ = some (.string X) ∧ w'.cell? ⟨w.heap.size, 3, none⟩ = some c3 ∧ Below w.heap.size w w') (first | exact ⟨hS1, hS2, hS3⟩ | exact ⟨hc0, hc3, hbm⟩ | exact ⟨(far4 _ _ _ _ _ _ _ _ (by simp)).trans hS1, (far4 _ _ _ _ _ _ _ _ (by simp)).trans hS2, (((hS3.setCell (by simp) _).setCell (by simp) _).setCell (by simp) _).setCell (by simp) _⟩) (first | (go_at_call 66; refine HTS.out.mono ?_; rintro e w3 ⟨rfl, hS1, hS2, hS3, hS4⟩; obtain ⟨hcb, hfb⟩ := bcell14 hS4; (have k0 := (hcb (w.heap.size + 1) 0 (by omega)).trans g0.1); (have k1 := (hcb (w.heap.size + 1) 1 (by omega)).trans g0.2.1); (have k2 := (hcb (w.heap.size + 1) 2 (by omega)).trans g0.2.2.1); (have k3 := (hcb (w.heap.size + 1) 3 (by omega)).trans g0.2.2.2); (have m0 := (hfb (w.heap.size + 1) 0 (by omega)).trans g1.1); (have m1 := (hfb (w.heap.size + 1) 1 (by omega)).trans g1.2.1); (have m2 := (hfb (w.heap.size + 1) 2 (by omega)).trans g1.2.2.1); (have m3 := (hfb (w.heap.size + 1) 3 (by omega)).trans g1.2.2.2)))
   all_goals
    go_wp2
    clear hcb hfb
    exact bodyPost_ret (v := .agg #[.string ⟨#[]⟩, .string X, .string q, .int .i64 4]) (by simp [results, Tryz.results50, go_sem, k0, k1, k2, k3]) rfl ⟨by first | (rw [HR.out, ← HXD.out, ← HQ.out]; done) | (rw [HR.out, ← HXD.out, ← HQ.out]; rfl), (((hS3.setCell (by simp) _).setCell (by simp) _).setCell (by simp) _).setCell (by simp) _⟩
  have b5 : (o == 5) = false := beq_eq_false_iff_ne.2 h5
  by_cases hg5 : (5 : Int) < o
  ·skip
   simp [h2, h3, h6, h7, h4, h5, hg5] at hR
   have HR : Hid (R = SR.ok []) := hid hR.symm
   clear hR
   go_enter Tryz.func50, Tryz.ntmps50
   go_wp2_with first
    | (go_at_call 32; refine (HL.out _ (HB2.out _ _)).mono ?_; rintro e w2 ⟨rfl, rfl⟩)
   exact bodyPost_ret (v := .agg #[.string ⟨#[]⟩, .string ⟨#[]⟩, .string ⟨#[]⟩, .int .i64 0]) (by simp [results, Tryz.results50, go_sem]) rfl ⟨by first | (rw [HR.out]; done) | (rw [HR.out]; rfl), (((Below.refl _ _).alloc (Nat.le_refl _) _).alloc (by simp) _)⟩
  ·have hg6 : o ≤ 5 := by omega
   simp [h2, h3, h6, h7, h4, h5, hg6, Int.not_lt.2 hg6] at hR
   have HR : Hid (R = SR.ok []) := hid hR.symm
   clear hR
   go_enter Tryz.func50, Tryz.ntmps50
   go_wp2_with first
    | (go_at_call 32; refine (HL.out _ (HB2.out _ _)).mono ?_; rintro e w2 ⟨rfl, rfl⟩)
   exact bodyPost_ret (v := .agg #[.string ⟨#[]⟩, .string ⟨#[]⟩, .string ⟨#[]⟩, .int .i64 0]) (by simp [results, Tryz.results50, go_sem]) rfl ⟨by first | (rw [HR.out]; done) | (rw [HR.out]; rfl), (((Below.refl _ _).alloc (Nat.le_refl _) _).alloc (by simp) _)⟩
 | some v0 =>
  obtain rfl : sb = true := hsb.symm
  by_cases hv0 : v0 = []
  ·subst hv0
   have gz : G.size = 0 := by rw [← hG]; rfl
   have gz3 : (G.size : Int) ≤ 0 := by omega
   clear hG hsb
   by_cases h2 : o = 2
   ·subst h2
    simp at hR
    have HR : Hid (R = PS) := hid hR.symm
    clear hR
    go_enter Tryz.func50, Tryz.ntmps50
    go_wp2_with first
     | (go_at_call 32; refine (HL.out _ (HB2.out _ _)).mono ?_; rintro e w2 ⟨rfl, rfl⟩)
     | (go_at_call 36; refine (HPA2.out _ (HB2.out _ _)).mono ?_; rintro e w4 ⟨rfl, hb4⟩; obtain ⟨hcb, hfb⟩ := bcell14 hb4)
    exact bodyPost_ret (v := .agg #[.string pa, .string pb, .string pc, .int .i64 pd]) (by simp [results, Tryz.results50, go_sem, hcb, hfb]) rfl ⟨by first | (rw [HR.out, HPS.out]; done) | (rw [HR.out, HPS.out]; rfl), ((((((HB2.out _ _).trans (hb4.mono (HB2.out _ _).size)).setCell (by simp) _).setCell (by simp) _).setCell (by simp) _).setCell (by simp) _)⟩
   have b2 : (o == 2) = false := beq_eq_false_iff_ne.2 h2
   by_cases h3 : o = 3
   ·subst h3
    simp [h2] at hR
    have HR : Hid (R = SR.ok []) := hid hR.symm
    clear hR
    go_enter Tryz.func50, Tryz.ntmps50
    go_wp2_with first
     | (go_at_call 32; refine (HL.out _ (HB2.out _ _)).mono ?_; rintro e w2 ⟨rfl, rfl⟩)
    exact bodyPost_ret (v := .agg #[.string G, .string ⟨#[]⟩, .string ⟨#[]⟩, .int .i64 0]) (by simp [results, Tryz.results50, go_sem]) rfl ⟨by first | (rw [HR.out, ← HG.out]; done) | (rw [HR.out, ← HG.out]; rfl), (((Below.refl _ _).alloc (Nat.le_refl _) _).alloc (by simp) _)⟩
   have b3 : (o == 3) = false := beq_eq_false_iff_ne.2 h3
   by_cases h6 : o = 6
   ·subst h6
    simp [h2, h3] at hR
    have HR : Hid (R = SR.ok []) := hid hR.symm
    clear hR
    go_enter Tryz.func50, Tryz.ntmps50
    go_wp2_with first
     | (go_at_call 32; refine (HL.out _ (HB2.out _ _)).mono ?_; rintro e w2 ⟨rfl, rfl⟩)
    exact bodyPost_ret (v := .agg #[.string ⟨#[]⟩, .string ⟨#[]⟩, .string ⟨#[]⟩, .int .i64 0]) (by simp [results, Tryz.results50, go_sem]) rfl ⟨by first | (rw [HR.out]; done) | (rw [HR.out]; rfl), (((Below.refl _ _).alloc (Nat.le_refl _) _).alloc (by simp) _)⟩
   have b6 : (o == 6) = false := beq_eq_false_iff_ne.2 h6
   by_cases h7 : o = 7
   ·subst h7
    simp [h2, h3, h6] at hR
    have HR : Hid (R = PS) := hid hR.symm
    clear hR
    go_enter Tryz.func50, Tryz.ntmps50
    go_wp2_with first
     | (go_at_call 32; refine (HL.out _ (HB2.out _ _)).mono ?_; rintro e w2 ⟨rfl, rfl⟩)
     | (go_at_call 36; refine (HPA2.out _ (HB2.out _ _)).mono ?_; rintro e w4 ⟨rfl, hb4⟩; obtain ⟨hcb, hfb⟩ := bcell14 hb4)
    exact bodyPost_ret (v := .agg #[.string pa, .string pb, .string pc, .int .i64 pd]) (by simp [results, Tryz.results50, go_sem, hcb, hfb]) rfl ⟨by first | (rw [HR.out, HPS.out]; done) | (rw [HR.out, HPS.out]; rfl), ((((((HB2.out _ _).trans (hb4.mono (HB2.out _ _).size)).setCell (by simp) _).setCell (by simp) _).setCell (by simp) _).setCell (by simp) _)⟩
   have b7 : (o == 7) = false := beq_eq_false_iff_ne.2 h7
   by_cases h4 : o = 4
   ·subst h4
    simp [h2, h3, h6, h7] at hR
    have HR : Hid (R = SR.err 4 n (txtL s)) := hid hR.symm
    clear hR
    go_enter Tryz.func50, Tryz.ntmps50
    obtain ⟨M, hM⟩ : ∃ M, M = ((w.alloc (.cells #[.string X, .string Y, .int .i64 4, c3] 84)).alloc (.cells #[.string ⟨#[]⟩, .string ⟨#[]⟩, .string ⟨#[]⟩, .int .i64 0] 47)) := ⟨_, rfl⟩
    go_wp2_with (go_at_call 32; refine (HL.out _ (HB2.out _ _)).mono ?_; rintro e w2 ⟨rfl, rfl⟩)
    rw [← hM]
    have hc0 : M.cell? ⟨w.heap.size, 0, none⟩ = some (.string X) := by rw [hM]; simp [go_sem]
    have hc3 : M.cell? ⟨w.heap.size, 3, none⟩ = some c3 := by rw [hM]; simp [go_sem]
    have hms : M.heap.size = w.heap.size + 1 + 1 := by rw [hM]; simp
    have g0 : M.cell? ⟨w.heap.size + 1, 0, none⟩ = some (.string ⟨#[]⟩) ∧ M.cell? ⟨w.heap.size + 1, 1, none⟩ = some (.string ⟨#[]⟩) ∧ M.cell? ⟨w.heap.size + 1, 2, none⟩ = some (.string ⟨#[]⟩) ∧ M.cell? ⟨w.heap.size + 1, 3, none⟩ = some (.int .i64 0) := by rw [hM]; simp [go_sem]
    have g1 : M.frozen? ⟨w.heap.size + 1, 0, none⟩ = false ∧ M.frozen? ⟨w.heap.size + 1, 1, none⟩ = false ∧ M.frozen? ⟨w.heap.size + 1, 2, none⟩ = false ∧ M.frozen? ⟨w.heap.size + 1, 3, none⟩ = false := by rw [hM]; simp [go_sem]
    have HWM : Hid (Below w.heap.size w M) := hid (by rw [hM]; exact HB2.out _ _)
    have HTS : Hid (Calls Tryz.prog 66 #[c3] M.drew fun e w' => e = .returned (.string q) ∧ w'.cell? ⟨w.heap.size, 0, none⟩ = some (.string X) ∧ w'.cell? ⟨w.heap.size, 3, none⟩ = some c3 ∧ Below w.heap.size w w' ∧ Below M.heap.size M w') := hid ((HTX.out M.drew (HWM.out.trans ((below_drewN M 1).mono HWM.out.size))).mono fun e w' h =>
     ⟨h.1, (h.2.cell (p := ⟨w.heap.size, 0, none⟩) (by show w.heap.size < M.heap.size; omega)).trans hc0, (h.2.cell (p := ⟨w.heap.size, 3, none⟩) (by show w.heap.size < M.heap.size; omega)).trans hc3, HWM.out.trans (((below_drewN M 1).trans h.2).mono HWM.out.size), (below_drewN M 1).trans h.2⟩)
    clear hM
    have hbm : Below w.heap.size w M.drew := HWM.out.trans ((below_drewN M 1).mono HWM.out.size)
    go_region_held (fun w' => w'.cell? ⟨w.heap.size, 0, none⟩ = some (.string X) ∧ w'.cell? ⟨w.heap.size, 3, none⟩ = some c3 ∧ Below w.heap.size w w') (first | exact ⟨hS1, hS2, hS3⟩ | exact ⟨hc0, hc3, hbm⟩ | exact ⟨(far4 _ _ _ _ _ _ _ _ (by simp)).trans hS1, (far4 _ _ _ _ _ _ _ _ (by simp)).trans hS2, (((hS3.setCell (by simp) _).setCell (by simp) _).setCell (by simp) _).setCell (by simp) _⟩) (first | (go_at_call 66; refine HTS.out.mono ?_; rintro e w3 ⟨rfl, hS1, hS2, hS3, hS4⟩; obtain ⟨hcb, hfb⟩ := bcell14 hS4; (have k0 := (hcb (w.heap.size + 1) 0 (by omega)).trans g0.1); (have k1 := (hcb (w.heap.size + 1) 1 (by omega)).trans g0.2.1); (have k2 := (hcb (w.heap.size + 1) 2 (by omega)).trans g0.2.2.1); (have k3 := (hcb (w.heap.size + 1) 3 (by omega)).trans g0.2.2.2); (have m0 := (hfb (w.heap.size + 1) 0 (by omega)).trans g1.1); (have m1 := (hfb (w.heap.size + 1) 1 (by omega)).trans g1.2.1); (have m2 := (hfb (w.heap.size + 1) 2 (by omega)).trans g1.2.2.1); (have m3 := (hfb (w.heap.size + 1) 3 (by omega)).trans g1.2.2.2)))
    all_goals
     go_wp2
     clear hcb hfb
     exact bodyPost_ret (v := .agg #[.string ⟨#[]⟩, .string X, .string q, .int .i64 4]) (by simp [results, Tryz.results50, go_sem, k0, k1, k2, k3]) rfl ⟨by first | (rw [HR.out, ← HXD.out, ← HQ.out]; done) | (rw [HR.out, ← HXD.out, ← HQ.out]; rfl), (((hS3.setCell (by simp) _).setCell (by simp) _).setCell (by simp) _).setCell (by simp) _⟩
   have b4 : (o == 4) = false := beq_eq_false_iff_ne.2 h4
   by_cases h5 : o = 5
   ·subst h5
    simp [h2, h3, h6, h7, h4] at hR
    have HR : Hid (R = SR.ok []) := hid hR.symm
    clear hR
    go_enter Tryz.func50, Tryz.ntmps50
    go_wp2_with first
     | (go_at_call 32; refine (HL.out _ (HB2.out _ _)).mono ?_; rintro e w2 ⟨rfl, rfl⟩)
    exact bodyPost_ret (v := .agg #[.string G, .string ⟨#[]⟩, .string ⟨#[]⟩, .int .i64 0]) (by simp [results, Tryz.results50, go_sem]) rfl ⟨by first | (rw [HR.out, ← HG.out]; done) | (rw [HR.out, ← HG.out]; rfl), (((Below.refl _ _).alloc (Nat.le_refl _) _).alloc (by simp) _)⟩
   have b5 : (o == 5) = false := beq_eq_false_iff_ne.2 h5
   by_cases hg5 : (5 : Int) < o
   ·skip
    simp [h2, h3, h6, h7, h4, h5, hg5] at hR
    have HR : Hid (R = SR.ok []) := hid hR.symm
    clear hR
    go_enter Tryz.func50, Tryz.ntmps50
    go_wp2_with first
     | (go_at_call 32; refine (HL.out _ (HB2.out _ _)).mono ?_; rintro e w2 ⟨rfl, rfl⟩)
    exact bodyPost_ret (v := .agg #[.string ⟨#[]⟩, .string ⟨#[]⟩, .string ⟨#[]⟩, .int .i64 0]) (by simp [results, Tryz.results50, go_sem]) rfl ⟨by first | (rw [HR.out]; done) | (rw [HR.out]; rfl), (((Below.refl _ _).alloc (Nat.le_refl _) _).alloc (by simp) _)⟩
   ·have hg6 : o ≤ 5 := by omega
    simp [h2, h3, h6, h7, h4, h5, hg6, Int.not_lt.2 hg6] at hR
    have HR : Hid (R = SR.ok []) := hid hR.symm
    clear hR
    go_enter Tryz.func50, Tryz.ntmps50
    go_wp2_with first
     | (go_at_call 32; refine (HL.out _ (HB2.out _ _)).mono ?_; rintro e w2 ⟨rfl, rfl⟩)
    exact bodyPost_ret (v := .agg #[.string G, .string ⟨#[]⟩, .string ⟨#[]⟩, .int .i64 0]) (by simp [results, Tryz.results50, go_sem]) rfl ⟨by first | (rw [HR.out, ← HG.out]; done) | (rw [HR.out, ← HG.out]; rfl), (((Below.refl _ _).alloc (Nat.le_refl _) _).alloc (by simp) _)⟩
  ·have hgl : G.data.toList = v0 := by rw [← hG, ba_data]; rfl
   have gz : 0 < G.size := by rw [← len_eq13, hgl]; exact List.length_pos_iff.2 hv0
   have gz3 : (0 : Int) < (G.size : Int) := by omega
   clear hgl
   clear hG hsb
   by_cases h2 : o = 2
   ·subst h2
    simp [hv0] at hR
    have HR : Hid (R = SR.ok v0) := hid hR.symm
    clear hR
    go_enter Tryz.func50, Tryz.ntmps50
    go_wp2_with first
     | (go_at_call 32; refine (HL.out _ (HB2.out _ _)).mono ?_; rintro e w2 ⟨rfl, rfl⟩)
    exact bodyPost_ret (v := .agg #[.string G, .string ⟨#[]⟩, .string ⟨#[]⟩, .int .i64 0]) (by simp [results, Tryz.results50, go_sem]) rfl ⟨by first | (rw [HR.out, ← HG.out]; done) | (rw [HR.out, ← HG.out]; rfl), (((Below.refl _ _).alloc (Nat.le_refl _) _).alloc (by simp) _)⟩
   have b2 : (o == 2) = false := beq_eq_false_iff_ne.2 h2
   by_cases h3 : o = 3
   ·subst h3
    simp [h2, hv0] at hR
    have HR : Hid (R = SR.ok v0) := hid hR.symm
    clear hR
    go_enter Tryz.func50, Tryz.ntmps50
    go_wp2_with first
     | (go_at_call 32; refine (HL.out _ (HB2.out _ _)).mono ?_; rintro e w2 ⟨rfl, rfl⟩)
    exact bodyPost_ret (v := .agg #[.string G, .string ⟨#[]⟩, .string ⟨#[]⟩, .int .i64 0]) (by simp [results, Tryz.results50, go_sem]) rfl ⟨by first | (rw [HR.out, ← HG.out]; done) | (rw [HR.out, ← HG.out]; rfl), (((Below.refl _ _).alloc (Nat.le_refl _) _).alloc (by simp) _)⟩
   have b3 : (o == 3) = false := beq_eq_false_iff_ne.2 h3
   by_cases h6 : o = 6
   ·subst h6
    simp [h2, h3, hv0] at hR
    have HR : Hid (R = PS) := hid hR.symm
    clear hR
    go_enter Tryz.func50, Tryz.ntmps50
    go_wp2_with first
     | (go_at_call 32; refine (HL.out _ (HB2.out _ _)).mono ?_; rintro e w2 ⟨rfl, rfl⟩)
     | (go_at_call 36; refine (HPA2.out _ (HB2.out _ _)).mono ?_; rintro e w4 ⟨rfl, hb4⟩; obtain ⟨hcb, hfb⟩ := bcell14 hb4)
    exact bodyPost_ret (v := .agg #[.string pa, .string pb, .string pc, .int .i64 pd]) (by simp [results, Tryz.results50, go_sem, hcb, hfb]) rfl ⟨by first | (rw [HR.out, HPS.out]; done) | (rw [HR.out, HPS.out]; rfl), ((((((HB2.out _ _).trans (hb4.mono (HB2.out _ _).size)).setCell (by simp) _).setCell (by simp) _).setCell (by simp) _).setCell (by simp) _)⟩
   have b6 : (o == 6) = false := beq_eq_false_iff_ne.2 h6
   by_cases h7 : o = 7
   ·subst h7
    simp [h2, h3, h6, hv0] at hR
    have HR : Hid (R = PS) := hid hR.symm
    clear hR
    go_enter Tryz.func50, Tryz.ntmps50
    go_wp2_with first
     | (go_at_call 32; refine (HL.out _ (HB2.out _ _)).mono ?_; rintro e w2 ⟨rfl, rfl⟩)
     | (go_at_call 36; refine (HPA2.out _ (HB2.out _ _)).mono ?_; rintro e w4 ⟨rfl, hb4⟩; obtain ⟨hcb, hfb⟩ := bcell14 hb4)
    exact bodyPost_ret (v := .agg #[.string pa, .string pb, .string pc, .int .i64 pd]) (by simp [results, Tryz.results50, go_sem, hcb, hfb]) rfl ⟨by first | (rw [HR.out, HPS.out]; done) | (rw [HR.out, HPS.out]; rfl), ((((((HB2.out _ _).trans (hb4.mono (HB2.out _ _).size)).setCell (by simp) _).setCell (by simp) _).setCell (by simp) _).setCell (by simp) _)⟩
   have b7 : (o == 7) = false := beq_eq_false_iff_ne.2 h7
   by_cases h4 : o = 4
   ·subst h4
    simp [h2, h3, h6, h7, hv0] at hR
    have HR : Hid (R = SR.ok v0) := hid hR.symm
    clear hR
    go_enter Tryz.func50, Tryz.ntmps50
    go_wp2_with first
     | (go_at_call 32; refine (HL.out _ (HB2.out _ _)).mono ?_; rintro e w2 ⟨rfl, rfl⟩)
    exact bodyPost_ret (v := .agg #[.string G, .string ⟨#[]⟩, .string ⟨#[]⟩, .int .i64 0]) (by simp [results, Tryz.results50, go_sem]) rfl ⟨by first | (rw [HR.out, ← HG.out]; done) | (rw [HR.out, ← HG.out]; rfl), (((Below.refl _ _).alloc (Nat.le_refl _) _).alloc (by simp) _)⟩
   have b4 : (o == 4) = false := beq_eq_false_iff_ne.2 h4
   by_cases h5 : o = 5
   ·subst h5
    simp [h2, h3, h6, h7, h4, hv0] at hR
    have HR : Hid (R = SR.ok v0) := hid hR.symm
    clear hR
    go_enter Tryz.func50, Tryz.ntmps50
    go_wp2_with first
     | (go_at_call 32; refine (HL.out _ (HB2.out _ _)).mono ?_; rintro e w2 ⟨rfl, rfl⟩)
    exact bodyPost_ret (v := .agg #[.string G, .string ⟨#[]⟩, .string ⟨#[]⟩, .int .i64 0]) (by simp [results, Tryz.results50, go_sem]) rfl ⟨by first | (rw [HR.out, ← HG.out]; done) | (rw [HR.out, ← HG.out]; rfl), (((Below.refl _ _).alloc (Nat.le_refl _) _).alloc (by simp) _)⟩
   have b5 : (o == 5) = false := beq_eq_false_iff_ne.2 h5
   by_cases hg5 : (5 : Int) < o
   ·skip
    simp [h2, h3, h6, h7, h4, h5, hg5, hv0] at hR
    have HR : Hid (R = SR.ok []) := hid hR.symm
    clear hR
    go_enter Tryz.func50, Tryz.ntmps50
    go_wp2_with first
     | (go_at_call 32; refine (HL.out _ (HB2.out _ _)).mono ?_; rintro e w2 ⟨rfl, rfl⟩)
    exact bodyPost_ret (v := .agg #[.string ⟨#[]⟩, .string ⟨#[]⟩, .string ⟨#[]⟩, .int .i64 0]) (by simp [results, Tryz.results50, go_sem]) rfl ⟨by first | (rw [HR.out]; done) | (rw [HR.out]; rfl), (((Below.refl _ _).alloc (Nat.le_refl _) _).alloc (by simp) _)⟩
   ·have hg6 : o ≤ 5 := by omega
    simp [h2, h3, h6, h7, h4, h5, hg6, Int.not_lt.2 hg6, hv0] at hR
    have HR : Hid (R = SR.ok v0) := hid hR.symm
    clear hR
    go_enter Tryz.func50, Tryz.ntmps50
    go_wp2_with first
     | (go_at_call 32; refine (HL.out _ (HB2.out _ _)).mono ?_; rintro e w2 ⟨rfl, rfl⟩)
    exact bodyPost_ret (v := .agg #[.string G, .string ⟨#[]⟩, .string ⟨#[]⟩, .int .i64 0]) (by simp [results, Tryz.results50, go_sem]) rfl ⟨by first | (rw [HR.out, ← HG.out]; done) | (rw [HR.out, ← HG.out]; rfl), (((Below.refl _ _).alloc (Nat.le_refl _) _).alloc (by simp) _)⟩
end
end Go.Proofs.YtkcilmmaggmmoaaGreatDoor
