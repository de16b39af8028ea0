/- TmpGive, RefSub3, RefTmp8 -/
import Derived.Test.YtkcilmmaggmmoaaDoorPT26
import Derived.Test.YtkcilmmaggmmoaaDoorPT32
import Derived.Test.YtkcilmmaggmmoaaDoorPT5
set_option linter.unusedVariables false
set_option linter.unusedSimpArgs false
set_option maxRecDepth 100000
set_option maxHeartbeats 16000000
open Go.Lib (hid)
namespace Go.Proofs.YtkcilmmaggmmoaaDoor
namespace Nw
end Nw
namespace S14
end S14
namespace T13
end T13
namespace V12
end V12
end Go.Proofs.YtkcilmmaggmmoaaDoor
namespace Go.Proofs.YtkcilmmaggmmoaaDoor
section
open Go.RowKit Go.Sort
open Nw T13
def GivesP (R : PR) (w : World) (e : Ending) (w' : World) : Prop := match R with
 | .ok ps _ => ∃ v, e = .returned (.tuple #[v, .int .i64 0]) ∧ PtW w' v ps ∧ Below w.heap.size w w'
 | .err er => ∃ v, e = .returned (.tuple #[v, .int .i64 er]) ∧ PtW w' v [] ∧ Below w.heap.size w w'
end
section
open Go.RowKit Go.Sort
open Nw T13 V12 S14
def sayT (E : Env) (s : L8) : SR := match prsT s with
 | .err e => .err e [] []
 | .ok ps _ => sayL E [] ps
theorem RText14 (HParse : ∀ (s : ByteArray) (W : World), s.size ≤ 100000 → Calls Tryd.prog 17 #[.string s] W (GivesP (prsT s.data.toList) W))
  (l : List KV) (hE : ∀ n v, lastV l n = some v → v.length ≤ 1000000) (s : ByteArray) (hs : s.size ≤ 100000) (v : Value) (w : World) (hv : VR w v l) :
  Calls Tryd.prog 9 #[.string s, v] w (SayW (sayT (lastV l) s.data.toList) w) := by
 have HPA := fun W => HParse s W hs
 obtain ⟨W0, hW0⟩ : ∃ W0, W0 = w.alloc (.cells #[.string ⟨#[]⟩, .string ⟨#[]⟩, .string ⟨#[]⟩, .int .i64 0] 30) := ⟨_, rfl⟩
 have hb0 : Below w.heap.size w W0 := by rw [hW0]; exact (Below.refl _ _).alloc (Nat.le_refl _) _
 have HB0 := hid hb0
 have HX0 : Hid (BoxS W0 w.heap.size (.string ⟨#[]⟩) (.string ⟨#[]⟩) (.string ⟨#[]⟩) (.int .i64 0)) := hid (by rw [hW0]; exact boxS_new _ _ _ _ _)
 unfold sayT
 cases hR : prsT s.data.toList with
 | err er =>
  rw [hR] at HPA
  have hne : er ≠ 0 := prsT_err hR
  have hne1 : (er != 0) = true := bne_iff_ne.2 hne
  have hne2 : (er == 0) = false := beq_eq_false_iff_ne.2 hne
  have HC := hid (HPA W0)
  clear HPA hR hne hv hE HParse
  go_enter Tryd.func9, Tryd.ntmps9
  go_wp2_with (go_at_call 17; rw [← hW0]; refine HC.out.mono ?_; rintro e w1 ⟨v1, rfl, -, b1⟩; obtain ⟨v0, v1', v2, v3⟩ := (HX0.out.go b1).cells; obtain ⟨u0', u1', u2', u3'⟩ := (HX0.out.go b1).froz; have HB1 := hid (HB0.out.trans (b1.mono HB0.out.size)); clear b1)
  exact bodyPost_ret (v := .agg #[.string ⟨#[]⟩, .string ⟨#[]⟩, .string ⟨#[]⟩, .int .i64 er]) (by simp [results, Tryd.results9, go_sem, v0, v1', v2, v3]) rfl ⟨rfl, (((HB1.out.setCell (Nat.le_refl _) _).setCell (Nat.le_refl _) _).setCell (Nat.le_refl _) _).setCell (Nat.le_refl _) _⟩
 | ok ps r =>
  rw [hR] at HPA
  obtain ⟨hwf, -⟩ := prsT_wf hR
  have hsz := prsT_size hR
  have hcn := cntL_le ps 1 hwf
  rw [show s.data.toList.length = s.size from rfl] at hsz
  have HC := hid (HPA W0)
  have HPP := hid (fun (u : Value) (W : World) (hu : PtW W u ps) (hb : Below w.heap.size w W) => RParts14 l hE 1000000 ps 1 (by omega) (Nat.le_refl _) (by omega) hwf u v W hu (hv.below hb))
  obtain ⟨PS, hPS⟩ : ∃ PS, sayL (lastV l) [] ps = PS := ⟨_, rfl⟩
  show Calls _ _ _ _ (SayW (sayL (lastV l) [] ps) w)
  rw [hPS] at HPP ⊢
  obtain ⟨pa, pb, pc, pd, hpv⟩ := said_shape PS
  have HPV := hid hpv
  clear HPA hR hwf hsz hcn hv hE HParse hPS hpv
  go_enter Tryd.func9, Tryd.ntmps9
  go_wp2_with first
   | (go_at_call 17; rw [← hW0]; refine HC.out.mono ?_; rintro e w1 ⟨x1, rfl, h1, b1⟩; have HX1 := hid (HX0.out.go b1); have HB1 := hid (HB0.out.trans (b1.mono HB0.out.size)); have HV1 := hid h1; clear b1 h1)
   | (go_at_call 18; refine (HPP.out _ _ HV1.out HB1.out).mono ?_; rintro e w2 ⟨he, b2⟩; rw [HPV.out] at he; subst he; obtain ⟨v0, v1', v2, v3⟩ := (HX1.out.go b2).cells; obtain ⟨u0', u1', u2', u3'⟩ := (HX1.out.go b2).froz; have HB2 := hid (HB1.out.trans (b2.mono HB1.out.size)); clear b2)
  exact bodyPost_ret (v := .agg #[.string pa, .string pb, .string pc, .int .i64 pd]) (by simp [results, Tryd.results9, go_sem, v0, v1', v2, v3]) rfl ⟨by rw [HPV.out], (((HB2.out.setCell (Nat.le_refl _) _).setCell (Nat.le_refl _) _).setCell (Nat.le_refl _) _).setCell (Nat.le_refl _) _⟩
end
section
open Go.RowKit Go.Sort
open Nw T13
theorem RParse13_any (s : ByteArray) (w : World) (hs : s.size ≤ 100000) : Calls Tryd.prog 17 #[.string s] w (GivesP (prsT s.data.toList) w) := by
 have h0 := fun W => Rparts_any (s.size + 1) s 0 1 W (by omega) (Nat.zero_le _) hs (Nat.le_refl _) (by omega)
 rw [List.drop_zero, show prsA 1 [] [] s.data.toList = prsT s.data.toList from rfl] at h0
 cases hR : prsT s.data.toList with
 | err er =>
  rw [hR] at h0
  have HC : Hid (∀ W, Calls Tryd.prog 30 #[.string s, .int .i64 0, .int .i64 1] W fun e w' => e = .returned (.tuple #[.slice none 0 0, .int .i64 0, .int .i64 er]) ∧ Below W.heap.size W w') := hid h0
  have hne : er ≠ 0 := prsT_err hR
  have hne1 : (er != 0) = true := bne_iff_ne.2 hne
  have hne2 : (er == 0) = false := beq_eq_false_iff_ne.2 hne
  clear h0 hR hne
  go_enter Tryd.func17, Tryd.ntmps17
  go_wp2_with (go_at_call 30; refine (HC.out _).mono ?_; rintro e w1 ⟨rfl, b1⟩)
  go_ret2
  exact ⟨_, rfl, ptL_nil _ _, b1⟩
 | ok ps r =>
  rw [hR] at h0
  obtain ⟨z, hz⟩ : ∃ z, s.size - r.length = z := ⟨_, rfl⟩
  have HC : Hid (∀ W, Calls Tryd.prog 30 #[.string s, .int .i64 0, .int .i64 1] W fun e w' => ∃ v, e = .returned (.tuple #[v, .int .i64 (z : Int), .int .i64 0]) ∧ PtL (Since W w') w' v ps ∧ Below W.heap.size W w') := hid (by subst hz; exact h0)
  clear h0 hR hz
  go_enter Tryd.func17, Tryd.ntmps17
  go_wp2_with (go_at_call 30; refine (HC.out _).mono ?_; rintro e w1 ⟨v1, rfl, h1, b1⟩; have H1 := hid h1; clear h1)
  go_ret2
  exact ⟨v1, rfl, H1.out.more fun b hb => hb.2, b1⟩
end
end Go.Proofs.YtkcilmmaggmmoaaDoor
