/- LawSub2 -/
import Derived.Deep.RegionHeld3
import Derived.Test.YtkcilmmaggmmoaaGreatDoorNT11
import Derived.Test.YtkcilmmaggmmoaaGreatDoorNT33
import Derived.Test.YtkcilmmaggmmoaaGreatDoorNT44
import Derived.Test.YtkcilmmaggmmoaaGreatDoorNT8
set_option linter.unusedVariables false
set_option linter.unusedSimpArgs false
set_option maxRecDepth 100000
set_option maxHeartbeats 16000000
open Go.Lib (hid)
namespace Go.Proofs.YtkcilmmaggmmoaaGreatDoor
namespace N8
end N8
namespace Nw
end Nw
namespace S14
end S14
namespace V12
end V12
end Go.Proofs.YtkcilmmaggmmoaaGreatDoor
namespace Go.Proofs.YtkcilmmaggmmoaaGreatDoor
section
open Go.RowKit Go.Sort
open Nw V12 S14
open N8 (Nd)
def NBx (W : World) (g : Nat) (d : Nd) (a b c e : Value) : Prop := Row4 W g 25 a b c e ∧ NdW W d a b c e
theorem NBx.go {W W' : World} {g : Nat} {d : Nd} {a b c e : Value} (h : NBx W g d a b c e) (hb : Below W.heap.size W W') : NBx W' g d a b c e := ⟨h.1.below hb h.1.lt, h.2.below hb⟩
theorem NBx.make {W : World} {d : Nd} {a b c e : Value} (h : NdW W d a b c e) : NBx (W.alloc (.cells #[a, b, c, e] 25)) W.heap.size d a b c e :=
 ⟨Row4.make W _ _ _ _ _, h.below ((Below.refl _ _).alloc (Nat.le_refl _) _)⟩
def NB3 (Pw : World → Prop) (w : World) (gn gx gy : Nat) (d dx : Nd) (n0 n1 n2 n3 x0 x1 x2 x3 y0 y1 y2 y3 : Value) (W : World) : Prop :=
 (Pw W ∧ Below w.heap.size w W) ∧ NBx W gn d n0 n1 n2 n3 ∧ NBx W gx dx x0 x1 x2 x3 ∧ NBx W gy dx y0 y1 y2 y3
theorem NB3.go {Pw : World → Prop} (hPw : ∀ w w', Pw w → Below w.heap.size w w' → Pw w') {w W W' : World} {gn gx gy : Nat} {d dx : Nd} {n0 n1 n2 n3 x0 x1 x2 x3 y0 y1 y2 y3 : Value} (h : NB3 Pw w gn gx gy d dx n0 n1 n2 n3 x0 x1 x2 x3 y0 y1 y2 y3 W) (hb : Below W.heap.size W W') : NB3 Pw w gn gx gy d dx n0 n1 n2 n3 x0 x1 x2 x3 y0 y1 y2 y3 W' :=
 ⟨⟨hPw _ _ h.1.1 hb, h.1.2.trans (hb.mono h.1.2.size)⟩, h.2.1.go hb, h.2.2.1.go hb, h.2.2.2.go hb⟩
theorem below_dr14 (w : World) : Below w.heap.size w w.drew := ⟨rfl, rfl, rfl, Nat.le_refl _, fun _ _ => rfl⟩
section
variable (Pw : World → Prop) (hPw : ∀ w w', Pw w → Below w.heap.size w w' → Pw w')
variable (HText : ∀ (s : ByteArray) (v : Value) (x : List KV) (W : World), Pw W → s.size ≤ 100000 → VR W v x → EnvS x → Calls Tryz.prog 16 #[.string s, v] W fun e w' => e = .returned (SayO (sayX (lastV x) s.data.toList)) ∧ Below W.heap.size W w')
variable (HRParse : ∀ (s : ByteArray) (W : World), s.size ≤ 100000 → Calls Tryz.prog 26 #[.string s] W (GivesP (T13.prsT s.data.toList) W))
variable (HRef : ∀ (s : ByteArray) (v : Value) (x : List KV) (W : World), s.size ≤ 100000 → VR W v x → EnvS x → Calls Tryz.prog 20 #[.string s, v] W (SayW (sayX (lastV x) s.data.toList) W))
variable (HNode : ∀ (d : Nd) (c0 c1 c2 c3 v : Value) (x : List KV) (W : World), Pw W → NdW W d c0 c1 c2 c3 → N8.smallT d 100 = true → VR W v x → EnvS x → Calls Tryz.prog 8 #[.agg #[c0, c1, c2, c3], v] W (GivesNW (sayN (lastV x) d) W))
variable (HNames : ∀ (d : Nd) (c0 c1 c2 c3 : Value) (W : World), Pw W → NdW W d c0 c1 c2 c3 → N8.smallT d 100 = true → Calls Tryz.prog 12 #[.agg #[c0, c1, c2, c3]] W fun e w' => ∃ v', e = .returned v' ∧ Rd w' v' (namXs [] (N8.textsT d)) ∧ Below W.heap.size W w')
include hPw HText HRParse HRef HNode HNames
theorem SubstNodes_walk (d : Nd) (c0 c1 c2 c3 : Value) (l : List KV) (v : Value) (w : World) (hw : Pw w) (hd : NdW w d c0 c1 c2 c3) (hl : VR w v l) (okl : KVok l) : Calls Tryz.prog 3 #[.agg #[c0, c1, c2, c3], v] w fun e w' => e = .returned (.bool true) ∧ Below w.heap.size w w' := by
 have HAW := hid (fun W hW => Awake14 Pw hPw HText W hW)
 have HP := hid hPw
 obtain ⟨nk, ns, na, nn, nc, nA, nm, nq, rfl, rfl, rfl, rfl⟩ := NdC.cellsOk hd
 have hbn := NBx.make hd
 have hb0 : Below w.heap.size w (w.alloc (.cells #[.int .i64 nk, .string ns, .slice na nn nc, .slice nA nm nq] 25)) := (Below.refl _ _).alloc (Nat.le_refl _) _
 obtain ⟨W0, hW0⟩ : ∃ W0, w.alloc (.cells #[.int .i64 nk, .string ns, .slice na nn nc, .slice nA nm nq] 25) = W0 := ⟨_, rfl⟩
 rw [hW0] at hbn hb0
 have HBN := hid hbn
 have HB0 := hid hb0
 have HW0 := hid (hPw _ _ hw hb0)
 have HV0 := hid (hl.below hb0)
 obtain ⟨p0, p1, p2, p3⟩ := hbn.1.cells
 have F0 := Few12_any v l 60 W0 HV0.out okl
 have S0 := hid (RSmall_any d 100 (by decide) (by decide) (N8.smallT d 100) rfl _ _ _ _ W0 hbn.2)
 cases hsm : N8.smallT d 100 with
 | false =>
  rw [hsm] at S0
  clear HText HRParse HRef HNode HNames hw hPw F0 hd hl okl hbn hb0 hsm
  go_enter Tryz.func3, Tryz.ntmps3
  go_wp2_with first
   | (go_at_call 4; refine S0.out.mono ?_; rintro e w1 ⟨rfl, b1⟩; have BB := hid (HB0.out.trans (b1.mono HB0.out.size)); have HW := hid (HP.out _ _ HW0.out b1); clear b1)
   | (go_at_call 6; refine (HAW.out _ HW.out).mono ?_; rintro e w2 ⟨rfl, b2⟩; replace BB := hid (BB.out.trans (b2.mono BB.out.size)); clear b2)
  go_ret
  exact ⟨rfl, BB.out⟩
 | true =>
  rw [hsm] at S0
  obtain ⟨hcn, htx⟩ := small_facts hsm
  by_cases hf : ¬ fewV l 60
  ·have F := hid (fun (W : World) (hv : VR W v l) => by have := Few12_any v l 60 W hv okl; rw [decide_eq_false hf] at this; exact this)
   clear HText HRParse HRef HNode HNames hw hPw F0 hd hl okl hbn hb0 hsm hcn htx hf
   go_enter Tryz.func3, Tryz.ntmps3
   go_wp2_with first
    | (go_at_call 4; refine S0.out.mono ?_; rintro e w1 ⟨rfl, b1⟩; have HV := hid (HV0.out.below b1); have BB := hid (HB0.out.trans (b1.mono HB0.out.size)); have HW := hid (HP.out _ _ HW0.out b1); clear b1)
    | (go_at_call 5; refine (F.out _ HV.out).mono ?_; rintro e w1 ⟨rfl, rfl⟩)
    | (go_at_call 6; refine (HAW.out _ HW.out).mono ?_; rintro e w2 ⟨rfl, b2⟩; replace BB := hid (BB.out.trans (b2.mono BB.out.size)); clear b2)
   go_ret
   exact ⟨rfl, BB.out⟩
  replace hf : fewV l 60 := Classical.not_not.1 hf
  have F := hid (fun (W : World) (hv : VR W v l) => by have := Few12_any v l 60 W hv okl; rw [decide_eq_true hf] at this; exact this)
  have HOF := hid (fun (W : World) (hv : VR W v l) => ROf_any v l W hv (fun p hp => (okl p hp).1) (by have := hf.1; omega))
  have hES := of_s hf.2
  obtain ⟨x, hx⟩ : ∃ x, ofV l = x := ⟨_, rfl⟩
  rw [hx] at HOF hES
  have CN := hid (fun (u : Value) (W : World) (h : Pw W) (hn : NdW W d (.int .i64 nk) (.string ns) (.slice na nn nc) (.slice nA nm nq)) (hv : VR W u x) => HNode d _ _ _ _ u x W h hn hsm hv hES)
  have CR := hid (fun (u : Value) (W : World) (hn : NdW W d (.int .i64 nk) (.string ns) (.slice na nn nc) (.slice nA nm nq)) (hv : VR W u x) => RNode14 x (fun s v W hs hv => HRef s v x W hs hv hES) (N8.cntT d) d (Nat.le_refl _) (by omega) (fun t ht => Nat.le_trans (htx t ht) (by decide)) (· < W.heap.size) _ _ _ _ u W (fun b hb => hb) hn hv)
  have CM := hid (fun (W : World) (h : Pw W) (hn : NdW W d (.int .i64 nk) (.string ns) (.slice na nn nc) (.slice nA nm nq)) => HNames d _ _ _ _ W h hn hsm)
  have CQ := hid (fun (W : World) (hn : NdW W d (.int .i64 nk) (.string ns) (.slice na nn nc) (.slice nA nm nq)) => RNames14 HRParse d (by omega) (fun t ht => Nat.le_trans (htx t ht) (by decide)) _ _ _ _ W hn)
  obtain ⟨L, hL⟩ : ∃ L, namXs [] (N8.textsT d) = L := ⟨_, rfl⟩
  rw [hL] at CM CQ
  cases hR : sayN (lastV x) d with
  | err er =>
   rw [hR] at CN CR
   have HSM := hid (fun (W : World) (a0 a1 a2 a3 b0 b1 b2 b3 : Value) (h1 : NdW W N8.nul a0 a1 a2 a3) (h2 : NdW W N8.nul b0 b1 b2 b3) => RSameT_any 1 N8.nul N8.nul (by decide) true (N8.sameT_iff.2 rfl) a0 a1 a2 a3 b0 b1 b2 b3 W h1 h2)
   have hee := int_self er
   replace CN : Hid (∀ (u : Value) (W : World), Pw W → NdW W d (.int .i64 nk) (.string ns) (.slice na nn nc) (.slice nA nm nq) → VR W u x → Calls Tryz.prog 8 #[.agg #[.int .i64 nk, .string ns, .slice na nn nc, .slice nA nm nq], u] W fun e w' => e = .returned (.tuple #[.agg #[.int .i64 0, .string ⟨#[]⟩, .slice none 0 0, .slice none 0 0], .int .i64 er]) ∧ Below W.heap.size W w') := CN
   replace CR : Hid (∀ (u : Value) (W : World), NdW W d (.int .i64 nk) (.string ns) (.slice na nn nc) (.slice nA nm nq) → VR W u x → Calls Tryz.prog 9 #[.agg #[.int .i64 nk, .string ns, .slice na nn nc, .slice nA nm nq], u] W fun e w' => e = .returned (.tuple #[.agg #[.int .i64 0, .string ⟨#[]⟩, .slice none 0 0, .slice none 0 0], .int .i64 er]) ∧ Below W.heap.size W w') := CR
   clear HText HRParse HRef HNode HNames hw hPw F0 hd hl okl hbn hb0 hsm hcn htx hf hx hES hL hR
   go_enter Tryz.func3, Tryz.ntmps3
   go_upto_region 6 with first
    | (go_at_call 4; refine S0.out.mono ?_; rintro e w1 ⟨rfl, b1⟩; have HV := hid (HV0.out.below b1); have BB := hid (HB0.out.trans (b1.mono HB0.out.size)); have HW := hid (HP.out _ _ HW0.out b1); have HN := hid (HBN.out.go b1); clear b1)
    | (go_at_call 5; refine (F.out _ HV.out).mono ?_; rintro e w1 ⟨rfl, rfl⟩)
    | (go_at_call 7; refine (HOF.out _ HV.out).mono ?_; rintro e w2 ⟨v2, rfl, hv2, b2⟩; have HX := hid hv2; replace BB := hid (BB.out.trans (b2.mono BB.out.size)); replace HW := hid (HP.out _ _ HW.out b2); replace HN := hid (HN.out.go b2); clear p0 p1 p2 p3; obtain ⟨p0, p1, p2, p3⟩ := HN.out.1.cells; clear hv2 b2)
    | (go_at_call 8; refine (CN.out _ _ HW.out HN.out.2 HX.out).mono ?_; rintro e w3 ⟨rfl, b3⟩; have hn3 : NdW w3 N8.nul (.int .i64 0) (.string ⟨#[]⟩) (.slice none 0 0) (.slice none 0 0) := nd_nul _ _; have bA : Below w3.heap.size w3 (w3.alloc (.cells #[.int .i64 0, .string ⟨#[]⟩, .slice none 0 0, .slice none 0 0] 25)) := (Below.refl _ _).alloc (Nat.le_refl _) _; have bT := b3.trans (bA.mono b3.size); have HXB := hid (NBx.make hn3); replace HX := hid (HX.out.below bT); replace BB := hid (BB.out.trans (bT.mono BB.out.size)); replace HW := hid (HP.out _ _ HW.out bT); replace HN := hid (HN.out.go bT); clear p0 p1 p2 p3; obtain ⟨p0, p1, p2, p3⟩ := HN.out.1.cells; clear b3 bA bT hn3)
    | (go_at_call 9; refine (CR.out _ _ HN.out.2 HX.out).mono ?_; rintro e w4 ⟨rfl, b4⟩; have hn4 : NdW w4 N8.nul (.int .i64 0) (.string ⟨#[]⟩) (.slice none 0 0) (.slice none 0 0) := nd_nul _ _; have bA : Below w4.heap.size w4 (w4.alloc (.cells #[.int .i64 0, .string ⟨#[]⟩, .slice none 0 0, .slice none 0 0] 25)) := (Below.refl _ _).alloc (Nat.le_refl _) _; have bT := b4.trans (bA.mono b4.size); have HYB := hid (NBx.make hn4); replace HXB := hid (HXB.out.go bT); replace BB := hid (BB.out.trans (bT.mono BB.out.size)); replace HW := hid (HP.out _ _ HW.out bT); replace HN := hid (HN.out.go bT); clear b4 bA bT hn4 p0 p1 p2 p3)
   generalize w4.alloc (.cells #[.int .i64 0, .string ⟨#[]⟩, .slice none 0 0, .slice none 0 0] 25) = W6 at *
   generalize w4.heap.size = gy at *
   generalize w3.heap.size = gx at *
   have HE := hid (show ∀ W, NB3 Pw w w.heap.size gx gy d N8.nul (.int .i64 nk) (.string ns) (.slice na nn nc) (.slice nA nm nq) (.int .i64 0) (.string ⟨#[]⟩) (.slice none 0 0) (.slice none 0 0) (.int .i64 0) (.string ⟨#[]⟩) (.slice none 0 0) (.slice none 0 0) W → W.cell? ⟨gx, 0, none⟩ = some (.int .i64 0) ∧ W.cell? ⟨gx, 1, none⟩ = some (.string ⟨#[]⟩) ∧ W.cell? ⟨gx, 2, none⟩ = some (.slice none 0 0) ∧ W.cell? ⟨gx, 3, none⟩ = some (.slice none 0 0) ∧ W.cell? ⟨gy, 0, none⟩ = some (.int .i64 0) ∧ W.cell? ⟨gy, 1, none⟩ = some (.string ⟨#[]⟩) ∧ W.cell? ⟨gy, 2, none⟩ = some (.slice none 0 0) ∧ W.cell? ⟨gy, 3, none⟩ = some (.slice none 0 0) ∧ W.cell? ⟨w.heap.size, 0, none⟩ = some (.int .i64 nk) ∧ W.cell? ⟨w.heap.size, 1, none⟩ = some (.string ns) ∧ W.cell? ⟨w.heap.size, 2, none⟩ = some (.slice na nn nc) ∧ W.cell? ⟨w.heap.size, 3, none⟩ = some (.slice nA nm nq) ∧ NB3 Pw w w.heap.size gx gy d N8.nul (.int .i64 nk) (.string ns) (.slice na nn nc) (.slice nA nm nq) (.int .i64 0) (.string ⟨#[]⟩) (.slice none 0 0) (.slice none 0 0) (.int .i64 0) (.string ⟨#[]⟩) (.slice none 0 0) (.slice none 0 0) W from fun W h => ⟨h.2.2.1.1.cells.1, h.2.2.1.1.cells.2.1, h.2.2.1.1.cells.2.2.1, h.2.2.1.1.cells.2.2.2, h.2.2.2.1.cells.1, h.2.2.2.1.cells.2.1, h.2.2.2.1.cells.2.2.1, h.2.2.2.1.cells.2.2.2, h.2.1.1.cells.1, h.2.1.1.cells.2.1, h.2.1.1.cells.2.2.1, h.2.1.1.cells.2.2.2, h⟩)
   have HGO := hid (fun (W W' : World) (h : NB3 Pw w w.heap.size gx gy d N8.nul (.int .i64 nk) (.string ns) (.slice na nn nc) (.slice nA nm nq) (.int .i64 0) (.string ⟨#[]⟩) (.slice none 0 0) (.slice none 0 0) (.int .i64 0) (.string ⟨#[]⟩) (.slice none 0 0) (.slice none 0 0) W) (hb : Below W.heap.size W W') => NB3.go HP.out h hb)
   have hE1 : NB3 Pw w w.heap.size gx gy d N8.nul (.int .i64 nk) (.string ns) (.slice na nn nc) (.slice nA nm nq) (.int .i64 0) (.string ⟨#[]⟩) (.slice none 0 0) (.slice none 0 0) (.int .i64 0) (.string ⟨#[]⟩) (.slice none 0 0) (.slice none 0 0) W6.drew := HGO.out _ _ (show NB3 Pw w w.heap.size gx gy d N8.nul (.int .i64 nk) (.string ns) (.slice na nn nc) (.slice nA nm nq) (.int .i64 0) (.string ⟨#[]⟩) (.slice none 0 0) (.slice none 0 0) (.int .i64 0) (.string ⟨#[]⟩) (.slice none 0 0) (.slice none 0 0) W6 from ⟨⟨HW.out, BB.out⟩, HN.out, HXB.out, HYB.out⟩) (below_dr14 W6)
   have hS1 := HE.out _ hE1
   go_region_held3 (fun W => W.cell? ⟨gx, 0, none⟩ = some (.int .i64 0) ∧ W.cell? ⟨gx, 1, none⟩ = some (.string ⟨#[]⟩) ∧ W.cell? ⟨gx, 2, none⟩ = some (.slice none 0 0) ∧ W.cell? ⟨gx, 3, none⟩ = some (.slice none 0 0) ∧ W.cell? ⟨gy, 0, none⟩ = some (.int .i64 0) ∧ W.cell? ⟨gy, 1, none⟩ = some (.string ⟨#[]⟩) ∧ W.cell? ⟨gy, 2, none⟩ = some (.slice none 0 0) ∧ W.cell? ⟨gy, 3, none⟩ = some (.slice none 0 0) ∧ W.cell? ⟨w.heap.size, 0, none⟩ = some (.int .i64 nk) ∧ W.cell? ⟨w.heap.size, 1, none⟩ = some (.string ns) ∧ W.cell? ⟨w.heap.size, 2, none⟩ = some (.slice na nn nc) ∧ W.cell? ⟨w.heap.size, 3, none⟩ = some (.slice nA nm nq) ∧ NB3 Pw w w.heap.size gx gy d N8.nul (.int .i64 nk) (.string ns) (.slice na nn nc) (.slice nA nm nq) (.int .i64 0) (.string ⟨#[]⟩) (.slice none 0 0) (.slice none 0 0) (.int .i64 0) (.string ⟨#[]⟩) (.slice none 0 0) (.slice none 0 0) W) (first | exact hS1 | exact hS2 | exact hS3 | exact hS4 | exact hS5 | exact hS6)
    (first
     | (go_at_call 10; refine (HSM.out _ _ _ _ _ _ _ _ _ hE1.2.2.1.2 hE1.2.2.2.2).mono ?_; rintro e2 w12 ⟨rfl, hb12⟩; have hE2 := HGO.out _ _ hE1 hb12; have hS2 := HE.out _ hE2)
     | (go_at_call 12; refine (CM.out _ hE2.1.1 hE2.2.1.2).mono ?_; rintro e3 w13 ⟨v13, rfl, hr13, hb13⟩; have hE3 := HGO.out _ _ hE2 hb13; have hS3 := HE.out _ hE3)
     | (go_at_call 13; refine (CQ.out _ hE3.2.1.2).mono ?_; rintro e4 w14 ⟨v14, rfl, hr14, hb14⟩; have hr13b := hr13.below hb14; have hE4 := HGO.out _ _ hE3 hb14; have hS4 := HE.out _ hE4)
     | (go_at_call 11; refine (RSame_any v13 v14 L L _ hr13b hr14).mono ?_; rintro e5 w15 ⟨rfl, hb15⟩; rw [decide_eq_true rfl]; have hE5 := HGO.out _ _ hE4 hb15; have hS5 := HE.out _ hE5)
     | (go_at_call 6; refine (HAW.out _ hE5.1.1).mono ?_; rintro e6 w16 ⟨rfl, hb16⟩; have hE6 := HGO.out _ _ hE5 hb16; have hS6 := HE.out _ hE6))
   all_goals
    have HR := hid hE6.1.2
    clear hS1 hE1 hE6 hS6
    go_wp2
    go_ret
    exact ⟨by simp, HR.out⟩
  | ok dx =>
   rw [hR] at CN CR
   have HSM := hid (fun (W : World) (a0 a1 a2 a3 b0 b1 b2 b3 : Value) (h1 : NdW W dx a0 a1 a2 a3) (h2 : NdW W dx b0 b1 b2 b3) => RSameT_any (N8.cntT dx) dx dx (Nat.le_refl _) true (N8.sameT_iff.2 rfl) a0 a1 a2 a3 b0 b1 b2 b3 W h1 h2)
   replace CN : Hid (∀ (u : Value) (W : World), Pw W → NdW W d (.int .i64 nk) (.string ns) (.slice na nn nc) (.slice nA nm nq) → VR W u x → Calls Tryz.prog 8 #[.agg #[.int .i64 nk, .string ns, .slice na nn nc, .slice nA nm nq], u] W fun e w' => ∃ u0 u1 u2 u3, e = .returned (.tuple #[.agg #[u0, u1, u2, u3], .int .i64 0]) ∧ NdW w' dx u0 u1 u2 u3 ∧ Below W.heap.size W w') := CN
   replace CR : Hid (∀ (u : Value) (W : World), NdW W d (.int .i64 nk) (.string ns) (.slice na nn nc) (.slice nA nm nq) → VR W u x → Calls Tryz.prog 9 #[.agg #[.int .i64 nk, .string ns, .slice na nn nc, .slice nA nm nq], u] W fun e w' => ∃ u0 u1 u2 u3, e = .returned (.tuple #[.agg #[u0, u1, u2, u3], .int .i64 0]) ∧ NdW w' dx u0 u1 u2 u3 ∧ Below W.heap.size W w') := hid (fun u W hn hv => (CR.out u W hn hv).mono fun e w' h => by
    obtain ⟨u0, u1, u2, u3, h1, h2, h3⟩ := h
    exact ⟨u0, u1, u2, u3, h1, NdC.keep (fun b hb => ⟨by
     rcases hb with hb | hb
     ·exact Nat.lt_of_lt_of_le hb h3.size
     ·exact hb.2, rfl⟩) _ h2, h3⟩)
   clear HText HRParse HRef HNode HNames hw hPw F0 hd hl okl hbn hb0 hsm hcn htx hf hx hES hL hR
   go_enter Tryz.func3, Tryz.ntmps3
   go_upto_region 6 with first
    | (go_at_call 4; refine S0.out.mono ?_; rintro e w1 ⟨rfl, b1⟩; have HV := hid (HV0.out.below b1); have BB := hid (HB0.out.trans (b1.mono HB0.out.size)); have HW := hid (HP.out _ _ HW0.out b1); have HN := hid (HBN.out.go b1); clear b1)
    | (go_at_call 5; refine (F.out _ HV.out).mono ?_; rintro e w1 ⟨rfl, rfl⟩)
    | (go_at_call 7; refine (HOF.out _ HV.out).mono ?_; rintro e w2 ⟨v2, rfl, hv2, b2⟩; have HX := hid hv2; replace BB := hid (BB.out.trans (b2.mono BB.out.size)); replace HW := hid (HP.out _ _ HW.out b2); replace HN := hid (HN.out.go b2); clear p0 p1 p2 p3; obtain ⟨p0, p1, p2, p3⟩ := HN.out.1.cells; clear hv2 b2)
    | (go_at_call 8; refine (CN.out _ _ HW.out HN.out.2 HX.out).mono ?_; rintro e w3 ⟨u0, u1, u2, u3, rfl, hn3, b3⟩; obtain ⟨x_k, x_s, x_a, x_n, x_c, x_A, x_m, x_q, rfl, rfl, rfl, rfl⟩ := NdC.cellsOk hn3; have bA : Below w3.heap.size w3 (w3.alloc (.cells #[.int .i64 x_k, .string x_s, .slice x_a x_n x_c, .slice x_A x_m x_q] 25)) := (Below.refl _ _).alloc (Nat.le_refl _) _; have bT := b3.trans (bA.mono b3.size); have HXB := hid (NBx.make hn3); replace HX := hid (HX.out.below bT); replace BB := hid (BB.out.trans (bT.mono BB.out.size)); replace HW := hid (HP.out _ _ HW.out bT); replace HN := hid (HN.out.go bT); clear p0 p1 p2 p3; obtain ⟨p0, p1, p2, p3⟩ := HN.out.1.cells; clear b3 bA bT hn3)
    | (go_at_call 9; refine (CR.out _ _ HN.out.2 HX.out).mono ?_; rintro e w4 ⟨u0, u1, u2, u3, rfl, hn4, b4⟩; obtain ⟨y_k, y_s, y_a, y_n, y_c, y_A, y_m, y_q, rfl, rfl, rfl, rfl⟩ := NdC.cellsOk hn4; have bA : Below w4.heap.size w4 (w4.alloc (.cells #[.int .i64 y_k, .string y_s, .slice y_a y_n y_c, .slice y_A y_m y_q] 25)) := (Below.refl _ _).alloc (Nat.le_refl _) _; have bT := b4.trans (bA.mono b4.size); have HYB := hid (NBx.make hn4); replace HXB := hid (HXB.out.go bT); replace BB := hid (BB.out.trans (bT.mono BB.out.size)); replace HW := hid (HP.out _ _ HW.out bT); replace HN := hid (HN.out.go bT); clear b4 bA bT hn4 p0 p1 p2 p3)
   generalize w4.alloc (.cells #[.int .i64 y_k, .string y_s, .slice y_a y_n y_c, .slice y_A y_m y_q] 25) = W6 at *
   generalize w4.heap.size = gy at *
   generalize w3.heap.size = gx at *
   have HE := hid (show ∀ W, NB3 Pw w w.heap.size gx gy d dx (.int .i64 nk) (.string ns) (.slice na nn nc) (.slice nA nm nq) (.int .i64 x_k) (.string x_s) (.slice x_a x_n x_c) (.slice x_A x_m x_q) (.int .i64 y_k) (.string y_s) (.slice y_a y_n y_c) (.slice y_A y_m y_q) W → W.cell? ⟨gx, 0, none⟩ = some (.int .i64 x_k) ∧ W.cell? ⟨gx, 1, none⟩ = some (.string x_s) ∧ W.cell? ⟨gx, 2, none⟩ = some (.slice x_a x_n x_c) ∧ W.cell? ⟨gx, 3, none⟩ = some (.slice x_A x_m x_q) ∧ W.cell? ⟨gy, 0, none⟩ = some (.int .i64 y_k) ∧ W.cell? ⟨gy, 1, none⟩ = some (.string y_s) ∧ W.cell? ⟨gy, 2, none⟩ = some (.slice y_a y_n y_c) ∧ W.cell? ⟨gy, 3, none⟩ = some (.slice y_A y_m y_q) ∧ W.cell? ⟨w.heap.size, 0, none⟩ = some (.int .i64 nk) ∧ W.cell? ⟨w.heap.size, 1, none⟩ = some (.string ns) ∧ W.cell? ⟨w.heap.size, 2, none⟩ = some (.slice na nn nc) ∧ W.cell? ⟨w.heap.size, 3, none⟩ = some (.slice nA nm nq) ∧ NB3 Pw w w.heap.size gx gy d dx (.int .i64 nk) (.string ns) (.slice na nn nc) (.slice nA nm nq) (.int .i64 x_k) (.string x_s) (.slice x_a x_n x_c) (.slice x_A x_m x_q) (.int .i64 y_k) (.string y_s) (.slice y_a y_n y_c) (.slice y_A y_m y_q) W from fun W h => ⟨h.2.2.1.1.cells.1, h.2.2.1.1.cells.2.1, h.2.2.1.1.cells.2.2.1, h.2.2.1.1.cells.2.2.2, h.2.2.2.1.cells.1, h.2.2.2.1.cells.2.1, h.2.2.2.1.cells.2.2.1, h.2.2.2.1.cells.2.2.2, h.2.1.1.cells.1, h.2.1.1.cells.2.1, h.2.1.1.cells.2.2.1, h.2.1.1.cells.2.2.2, h⟩)
   have HGO := hid (fun (W W' : World) (h : NB3 Pw w w.heap.size gx gy d dx (.int .i64 nk) (.string ns) (.slice na nn nc) (.slice nA nm nq) (.int .i64 x_k) (.string x_s) (.slice x_a x_n x_c) (.slice x_A x_m x_q) (.int .i64 y_k) (.string y_s) (.slice y_a y_n y_c) (.slice y_A y_m y_q) W) (hb : Below W.heap.size W W') => NB3.go HP.out h hb)
   have hE1 : NB3 Pw w w.heap.size gx gy d dx (.int .i64 nk) (.string ns) (.slice na nn nc) (.slice nA nm nq) (.int .i64 x_k) (.string x_s) (.slice x_a x_n x_c) (.slice x_A x_m x_q) (.int .i64 y_k) (.string y_s) (.slice y_a y_n y_c) (.slice y_A y_m y_q) W6.drew := HGO.out _ _ (show NB3 Pw w w.heap.size gx gy d dx (.int .i64 nk) (.string ns) (.slice na nn nc) (.slice nA nm nq) (.int .i64 x_k) (.string x_s) (.slice x_a x_n x_c) (.slice x_A x_m x_q) (.int .i64 y_k) (.string y_s) (.slice y_a y_n y_c) (.slice y_A y_m y_q) W6 from ⟨⟨HW.out, BB.out⟩, HN.out, HXB.out, HYB.out⟩) (below_dr14 W6)
   have hS1 := HE.out _ hE1
   go_region_held3 (fun W => W.cell? ⟨gx, 0, none⟩ = some (.int .i64 x_k) ∧ W.cell? ⟨gx, 1, none⟩ = some (.string x_s) ∧ W.cell? ⟨gx, 2, none⟩ = some (.slice x_a x_n x_c) ∧ W.cell? ⟨gx, 3, none⟩ = some (.slice x_A x_m x_q) ∧ W.cell? ⟨gy, 0, none⟩ = some (.int .i64 y_k) ∧ W.cell? ⟨gy, 1, none⟩ = some (.string y_s) ∧ W.cell? ⟨gy, 2, none⟩ = some (.slice y_a y_n y_c) ∧ W.cell? ⟨gy, 3, none⟩ = some (.slice y_A y_m y_q) ∧ W.cell? ⟨w.heap.size, 0, none⟩ = some (.int .i64 nk) ∧ W.cell? ⟨w.heap.size, 1, none⟩ = some (.string ns) ∧ W.cell? ⟨w.heap.size, 2, none⟩ = some (.slice na nn nc) ∧ W.cell? ⟨w.heap.size, 3, none⟩ = some (.slice nA nm nq) ∧ NB3 Pw w w.heap.size gx gy d dx (.int .i64 nk) (.string ns) (.slice na nn nc) (.slice nA nm nq) (.int .i64 x_k) (.string x_s) (.slice x_a x_n x_c) (.slice x_A x_m x_q) (.int .i64 y_k) (.string y_s) (.slice y_a y_n y_c) (.slice y_A y_m y_q) W) (first | exact hS1 | exact hS2 | exact hS3 | exact hS4 | exact hS5 | exact hS6)
    (first
     | (go_at_call 10; refine (HSM.out _ _ _ _ _ _ _ _ _ hE1.2.2.1.2 hE1.2.2.2.2).mono ?_; rintro e2 w12 ⟨rfl, hb12⟩; have hE2 := HGO.out _ _ hE1 hb12; have hS2 := HE.out _ hE2)
     | (go_at_call 12; refine (CM.out _ hE2.1.1 hE2.2.1.2).mono ?_; rintro e3 w13 ⟨v13, rfl, hr13, hb13⟩; have hE3 := HGO.out _ _ hE2 hb13; have hS3 := HE.out _ hE3)
     | (go_at_call 13; refine (CQ.out _ hE3.2.1.2).mono ?_; rintro e4 w14 ⟨v14, rfl, hr14, hb14⟩; have hr13b := hr13.below hb14; have hE4 := HGO.out _ _ hE3 hb14; have hS4 := HE.out _ hE4)
     | (go_at_call 11; refine (RSame_any v13 v14 L L _ hr13b hr14).mono ?_; rintro e5 w15 ⟨rfl, hb15⟩; rw [decide_eq_true rfl]; have hE5 := HGO.out _ _ hE4 hb15; have hS5 := HE.out _ hE5)
     | (go_at_call 6; refine (HAW.out _ hE5.1.1).mono ?_; rintro e6 w16 ⟨rfl, hb16⟩; have hE6 := HGO.out _ _ hE5 hb16; have hS6 := HE.out _ hE6))
   all_goals
    have HR := hid hE6.1.2
    clear hS1 hE1 hE6 hS6
    go_wp2
    go_ret
    exact ⟨by simp, HR.out⟩
end
end
end Go.Proofs.YtkcilmmaggmmoaaGreatDoor
