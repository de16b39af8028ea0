/- The laws' awake, and TmplTells, over the contracts of the program's Parse, Text, Names and Deep. -/
import Derived.Test.YtekfbnhicmfaaaaDoorLawTmp0
import Derived.Test.YtekfbnhicmfaaaaDoorRefTmp3
import Derived.Test.YtekfbnhicmfaaaaDoorNamRsame
import Derived.Test.YtekfbnhicmfaaaaDoorTmpOut
import Derived.Test.YtekfbnhicmfaaaaDoorTmpGive
namespace Go.Proofs.YtekfbnhicmfaaaaDoor
open Go.RowKit Go.Sort
open Nw T13
set_option linter.unusedVariables false
def exS : L8 := [97, 36, 123, 66, 58, 45, 99, 36, 68, 125, 36, 36]
def exP : List Pt := [.mk [] [97] 0 [], .mk [66] [] 2 [.mk [] [99] 0 [], .mk [68] [] 1 []], .mk [] [36] 0 []]
theorem ex_ok13 : prsT exS = .ok exP [] := by kernel_rfl
theorem ex_bad13 : prsT [36, 49] = .err 3 := by kernel_rfl
theorem PtL.shape {S : Nat → Prop} {w : World} {v : Value} {ps : List Pt} (h : PtL S w v ps) : ∃ A cap, v = .slice A ps.length cap ∧ ps.length ≤ cap := by
  obtain ⟨A, cap, h1, h2, -⟩ := h
  exact ⟨A, cap, h1, h2⟩
/-- What awake reads. -/
def ExA (w : World) (A : Option Addr) (cap : Nat) : Prop := ∃ (b o : Nat) (B : Option Addr) (c : Nat), A = some ⟨b, o, none⟩ ∧ 3 ≤ cap ∧ w.cell? ⟨b, o + 1 * 4, none⟩ = some (.string ⟨#[66]⟩) ∧ w.cell? ⟨b, o + 1 * 4 + 2, none⟩ = some (.int .i64 2) ∧
  w.cell? ⟨b, o + 1 * 4 + 3, none⟩ = some (.slice B 2 c) ∧ w.cell? ⟨b, o + 2 * 4 + 1, none⟩ = some (.string ⟨#[36]⟩)
theorem exA_of {w : World} {v : Value} (h : PtW w v exP) : ∃ A cap, v = .slice A 3 cap ∧ ExA w A cap := by
  obtain ⟨A, cap, rfl, hc⟩ := PtL.shape h
  refine ⟨A, cap, rfl, ?_⟩
  obtain ⟨b, o, e0, e1, e2, e3, rfl, -, x0, x1, x2, x3, hs⟩ := PtL.at_ h 1 (by decide)
  obtain ⟨b', o', f0, f1, f2, f3, hb, -, y0, y1, y2, y3, hs'⟩ := PtL.at_ h 2 (by decide)
  injection hb with hb
  injection hb with hb ho
  subst hb; subst ho
  have hs1 : PtC (· < w.heap.size) w (.mk [66] [] 2 [.mk [] [99] 0 [], .mk [68] [] 1 []]) e0 e1 e2 e3 := hs
  have hs2 : PtC (· < w.heap.size) w (.mk [] [36] 0 []) f0 f1 f2 f3 := hs'
  obtain ⟨rfl, rfl, rfl, hsb⟩ := PtC.sub hs1
  obtain ⟨rfl, rfl, rfl, -⟩ := PtC.sub hs2
  obtain ⟨B, c, rfl, -⟩ := PtL.shape hsb
  exact ⟨b, o, B, c, rfl, hc, x0, x2, x3, y1⟩
section
variable (Pw : World → Prop) (hPw : ∀ w w', Pw w → Below w.heap.size w w' → Pw w')
variable (HParse : ∀ (s : ByteArray) (W : World), Pw W → s.size ≤ 100000 → Calls Tryd.prog 6 #[.string s] W (GivesP (prsT s.data.toList) W))
include hPw HParse
set_option maxRecDepth 100000 in
set_option maxHeartbeats 8000000 in
theorem Awake13 (w : World) (hw : Pw w) : Calls Tryd.prog 5 #[] w fun e w' => e = .returned (.bool true) ∧ Below w.heap.size w w' := by
  have HA : Hid (∀ W, Pw W → Calls Tryd.prog 6 #[.string ⟨#[97, 36, 123, 66, 58, 45, 99, 36, 68, 125, 36, 36]⟩] W fun e w' => ∃ v, e = .returned (.tuple #[v, .int .i64 0]) ∧ PtW w' v exP ∧ Below W.heap.size W w') := Lib.hid (fun W h => by
    have h1 := HParse ⟨exS.toArray⟩ W h (by decide)
    rw [show (⟨exS.toArray⟩ : ByteArray).data.toList = exS from rfl, ex_ok13] at h1
    exact h1)
  have HB : Hid (∀ W, Pw W → Calls Tryd.prog 6 #[.string ⟨#[36, 49]⟩] W fun e w' => ∃ v, e = .returned (.tuple #[v, .int .i64 3]) ∧ PtW w' v [] ∧ Below W.heap.size W w') := Lib.hid (fun W h => by
    have h1 := HParse ⟨#[36, 49]⟩ W h (by decide)
    rw [show (⟨#[36, 49]⟩ : ByteArray).data.toList = [36, 49] from rfl, ex_bad13] at h1
    exact h1)
  have HW := Lib.hid hw
  have HP := Lib.hid hPw
  clear HParse hw hPw
  go_enter Tryd.func5, Tryd.ntmps5
  go_wp2_with first
    | (go_at_call 6; (with_reducible refine (HA.out _ HW.out).mono ?_); rintro e w1 ⟨v1, rfl, h1, b1⟩; have HV1 := Lib.hid h1; have B1 := Lib.hid b1; clear h1 b1)
    | (go_at_call 6; (with_reducible refine (HB.out _ (HP.out _ _ HW.out B1.out)).mono ?_); rintro e w2 ⟨v2, rfl, -, b2⟩; have HX := Lib.hid (PtW.below HV1.out b2); have B2 := Lib.hid (B1.out.trans (b2.mono B1.out.size)); clear b2 HV1; have hE := exA_of HX.out; clear HX; obtain ⟨A, cap, hv, hE⟩ := hE; subst hv; unfold ExA at hE; obtain ⟨b, o, B, c, hA, hcap, x0, x2, x3, y1⟩ := hE; subst hA)
  go_ret
  exact ⟨by simp, B2.out⟩
variable (HText : ∀ (v : Value) (ps : List Pt) (q : ByteArray) (W : World), Pw W → PtW W v ps → WfL 1 ps → cntL ps ≤ 100000 → q.size ≤ 100000 → q.data.toList = txtL ps → Calls Tryd.prog 8 #[v] W fun e w' => e = .returned (.string q) ∧ Below W.heap.size W w')
variable (HNames : ∀ (v : Value) (ps : List Pt) (W : World), Pw W → PtW W v ps → WfL 1 ps → cntL ps ≤ 100000 → Calls Tryd.prog 11 #[v] W fun e w' => ∃ v', e = .returned v' ∧ Rd w' v' (sortL (namL ps)) ∧ Below W.heap.size W w')
variable (HDeep : ∀ (v : Value) (ps : List Pt) (W : World), Pw W → PtW W v ps → WfL 1 ps → cntL ps ≤ 100000 → Calls Tryd.prog 13 #[v] W fun e w' => e = .returned (.int .i64 (depL ps : Int)) ∧ Below W.heap.size W w')
include HText HNames HDeep
set_option maxRecDepth 100000 in
set_option maxHeartbeats 16000000 in
theorem TmplTells_walk (s : ByteArray) (w : World) (hw : Pw w) (hs : s.size ≤ maxLen) : Calls Tryd.prog 3 #[.string s] w fun e w' => e = .returned (.bool true) ∧ Below w.heap.size w w' := by
  have HAW := Lib.hid (fun W hW => Awake13 Pw hPw HParse W hW)
  have HW := Lib.hid hw
  have HP := Lib.hid hPw
  unfold maxLen at hs
  by_cases hl : (2000 : Int) < (s.size : Int)
  · clear HParse HText HNames HDeep hw hPw
    go_enter Tryd.func3, Tryd.ntmps3
    go_wp2_with (go_at_call 5; refine (HAW.out _ HW.out).mono ?_; rintro e w1 ⟨rfl, b1⟩)
    go_ret
    exact ⟨rfl, b1⟩
  have HA := Lib.hid (fun W hW => HParse s W hW (by omega))
  cases hR : prsT s.data.toList with
  | err er =>
    rw [hR] at HA
    have hne : (er != 0) = true := bne_iff_ne.2 (prsT_err hR)
    clear HParse HText HNames HDeep hw hPw hR
    go_enter Tryd.func3, Tryd.ntmps3
    go_wp2_with first
      | (go_at_call 6; refine (HA.out _ HW.out).mono ?_; rintro e w1 ⟨v1, rfl, -, b1⟩; have B1 := Lib.hid b1; clear b1)
      | (go_at_call 5; refine (HAW.out _ (HP.out _ _ HW.out B1.out)).mono ?_; rintro e w2 ⟨rfl, b2⟩)
    go_ret
    exact ⟨rfl, B1.out.trans (b2.mono B1.out.size)⟩
  | ok ps r =>
    rw [hR] at HA
    obtain ⟨hwf, hcalm⟩ := prsT_wf hR
    have hsz := prsT_size hR
    have hcn := cntL_le ps 1 hwf
    have hdp := depL_le ps 1 hwf
    rw [show s.data.toList.length = s.size from rfl] at hsz
    have HC : Hid (cntL ps ≤ 4000) := Lib.hid (by omega)
    have HWF := Lib.hid hwf
    obtain ⟨q, hq⟩ := exq (txtL ps)
    have hqs : q.size ≤ 4000 := by rw [← len_eq13, hq]; omega
    have HQ := Lib.hid hq
    have HQS := Lib.hid hqs
    have HTL : Hid ((txtL ps).length ≤ 4000) := Lib.hid (by omega)
    have CT := Lib.hid HText
    have CN := Lib.hid HNames
    have CD := Lib.hid HDeep
    obtain ⟨D, hD⟩ : ∃ D, depL ps = D := ⟨_, rfl⟩
    have HD := Lib.hid hD
    have d1 : ((D : Int) == (D : Int)) = true := beq_self_eq_true _
    have d2 : (D : Int) ≤ 8 := by omega
    have t1 : (q.toList == q.toList) = true := by simp
    clear HParse HText HNames HDeep hw hPw hR hwf hcalm hsz hcn hdp hq hqs hD
    go_enter Tryd.func3, Tryd.ntmps3
    go_wp2_with first
      | (go_at_call 6; refine (HA.out _ HW.out).mono ?_; rintro e w1 ⟨v1, rfl, h1, b1⟩; have HV := Lib.hid h1; have BB := Lib.hid b1; replace HW := Lib.hid (HP.out _ _ HW.out b1); clear h1 b1)
      | (go_at_call 7; refine (taken_any13 1000000 ps (by have := HC.out; omega) (Nat.le_refl _) v1 _ HV.out).mono ?_; rintro e w2 ⟨v2, rfl, h2, b2⟩; have HT2 := Lib.hid (h2.more (T := (· < w2.heap.size)) fun b hb => hb.2); replace HV := Lib.hid (PtW.below HV.out b2); replace BB := Lib.hid (BB.out.trans (b2.mono BB.out.size)); replace HW := Lib.hid (HP.out _ _ HW.out b2); clear h2 b2)
      | (go_at_call 8; refine (CT.out v1 ps q _ HW.out HV.out HWF.out (by have := HC.out; omega) (by have := HQS.out; omega) HQ.out).mono ?_; rintro e w3 ⟨rfl, b3⟩; replace HT2 := Lib.hid (PtW.below HT2.out b3); replace HV := Lib.hid (PtW.below HV.out b3); replace BB := Lib.hid (BB.out.trans (b3.mono BB.out.size)); replace HW := Lib.hid (HP.out _ _ HW.out b3); clear b3)
      | (go_at_call 9; refine (RText13_any 1000000 ps (by have := HC.out; omega) (Nat.le_refl _) (by have := HTL.out; omega) v2 _ HT2.out q HQ.out).mono ?_; rintro e w4 ⟨rfl, b4⟩; replace HT2 := Lib.hid (PtW.below HT2.out b4); replace HV := Lib.hid (PtW.below HV.out b4); replace BB := Lib.hid (BB.out.trans (b4.mono BB.out.size)); replace HW := Lib.hid (HP.out _ _ HW.out b4); clear b4)
      | (go_at_call 11; refine (CN.out v1 ps _ HW.out HV.out HWF.out (by have := HC.out; omega)).mono ?_; rintro e w5 ⟨v5, rfl, h5, b5⟩; have HN5 := Lib.hid h5; replace HT2 := Lib.hid (PtW.below HT2.out b5); replace HV := Lib.hid (PtW.below HV.out b5); replace BB := Lib.hid (BB.out.trans (b5.mono BB.out.size)); replace HW := Lib.hid (HP.out _ _ HW.out b5); clear h5 b5)
      | (go_at_call 12; refine (RNames13_any ps (by have := HC.out; omega) v2 _ HT2.out).mono ?_; rintro e w6 ⟨v6, rfl, h6, b6⟩; have HN6 := Lib.hid h6; replace HN5 := Lib.hid (HN5.out.below b6); replace HT2 := Lib.hid (PtW.below HT2.out b6); replace HV := Lib.hid (PtW.below HV.out b6); replace BB := Lib.hid (BB.out.trans (b6.mono BB.out.size)); replace HW := Lib.hid (HP.out _ _ HW.out b6); clear h6 b6)
      | (go_at_call 10; refine (RSame_any v5 v6 _ _ _ HN5.out HN6.out).mono ?_; rintro e w7 ⟨rfl, b7⟩; rw [decide_eq_true rfl]; replace HT2 := Lib.hid (PtW.below HT2.out b7); replace HV := Lib.hid (PtW.below HV.out b7); replace BB := Lib.hid (BB.out.trans (b7.mono BB.out.size)); replace HW := Lib.hid (HP.out _ _ HW.out b7); clear b7)
      | (go_at_call 13; refine (CD.out v1 ps _ HW.out HV.out HWF.out (by have := HC.out; omega)).mono ?_; rintro e w8 ⟨rfl, b8⟩; rw [HD.out]; replace HT2 := Lib.hid (PtW.below HT2.out b8); replace HV := Lib.hid (PtW.below HV.out b8); replace BB := Lib.hid (BB.out.trans (b8.mono BB.out.size)); replace HW := Lib.hid (HP.out _ _ HW.out b8); clear b8)
      | (go_at_call 14; refine (RDeep13_any 1000000 ps (by have := HC.out; omega) (Nat.le_refl _) _ v2 _ HT2.out).mono ?_; rintro e w9 ⟨rfl, rfl⟩; rw [HD.out])
      | (go_at_call 5; refine (HAW.out _ HW.out).mono ?_; rintro e w10 ⟨rfl, b10⟩; replace BB := Lib.hid (BB.out.trans (b10.mono BB.out.size)); clear b10)
    go_ret
    exact ⟨by simp, BB.out⟩
end
end Go.Proofs.YtekfbnhicmfaaaaDoor
