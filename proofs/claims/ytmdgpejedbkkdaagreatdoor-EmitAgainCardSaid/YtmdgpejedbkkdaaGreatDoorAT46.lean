/- EmiLaw2 -/
import Derived.Deep.RegionHeld3
import Derived.Test.YtmdgpejedbkkdaaGreatDoorAT45
set_option linter.unusedVariables false
set_option linter.unusedSimpArgs false
set_option maxRecDepth 100000
set_option maxHeartbeats 16000000
open Go.Lib (hid)
namespace Go.Proofs.YtmdgpejedbkkdaaGreatDoor
section
open Go.RowKit Go.Sort
open Nw N8 Q6 F9 B10 E11
def EA (w : World) (ga gb : Nat) (a b : Nd) (a0 a1 a2 a3 b0 b1 b2 b3 : Value) (W : World) : Prop := Below w.heap.size w W ∧ BX W ga a a0 a1 a2 a3 ∧ BX W gb b b0 b1 b2 b3
theorem EA.go {w W W' : World} {ga gb : Nat} {a b : Nd} {a0 a1 a2 a3 b0 b1 b2 b3 : Value} (h : EA w ga gb a b a0 a1 a2 a3 b0 b1 b2 b3 W) (hb : Below W.heap.size W W') : EA w ga gb a b a0 a1 a2 a3 b0 b1 b2 b3 W' :=
 ⟨b_next h.1 hb, h.2.1.go hb, h.2.2.go hb⟩
theorem RSameN_any {d e : Nd} {r : Bool} (hr : sameT d e = r) {c0 c1 c2 c3 u0 u1 u2 u3 : Value} {w : World} (h : NdW w d c0 c1 c2 c3) (g : NdW w e u0 u1 u2 u3) :
  Calls Tryz.prog 14 #[.agg #[c0, c1, c2, c3], .agg #[u0, u1, u2, u3]] w fun x w' => x = .returned (.bool r) ∧ Below w.heap.size w w' :=
 RSameT_any (cntT d) d e (Nat.le_refl _) r hr c0 c1 c2 c3 u0 u1 u2 u3 w h g
theorem same_refl (d : Nd) : sameT d d = true := sameT_refl _ d (Nat.le_refl _)
theorem EA.na {w W : World} {ga gb : Nat} {a b : Nd} {a0 a1 a2 a3 b0 b1 b2 b3 : Value} (h : EA w ga gb a b a0 a1 a2 a3 b0 b1 b2 b3 W) : NdW W a a0 a1 a2 a3 := h.2.1.2
theorem EA.nb {w W : World} {ga gb : Nat} {a b : Nd} {a0 a1 a2 a3 b0 b1 b2 b3 : Value} (h : EA w ga gb a b a0 a1 a2 a3 b0 b1 b2 b3 W) : NdW W b b0 b1 b2 b3 := h.2.2.2
theorem EA.low {w W : World} {ga gb : Nat} {a b : Nd} {a0 a1 a2 a3 b0 b1 b2 b3 : Value} (h : EA w ga gb a b a0 a1 a2 a3 b0 b1 b2 b3 W) : Below w.heap.size w W := h.1
theorem par_facts (l : L8) : N8.Fine (parB l).1 ∧ cntT (parB l).1 ≤ 2000 ∧ depT (parB l).1 ≤ 12 ∧ allT 1000000 (parB l).1 ∧ (wrB (parB l).1).length ≤ 800000000 ∧ okT 2000 (parB l).1 = true := by
 obtain ⟨h1, h2⟩ := E11.par_all l
 obtain ⟨hf, hc, hd⟩ := (ok_iff (most := 2000)).1 h2
 exact ⟨hf, hc, hd, all_mono (by omega) _ _ (Nat.le_refl _) h1, wrB_par l, h2⟩
theorem EmitAgain_walk (s t : ByteArray) (hs9 : s.size ≤ maxLen) (ht9 : t.size ≤ maxLen) (w : World) (hw : SomeMax w) :
  Calls Tryz.prog 5 #[.string s, .string t] w fun e w' => e = .returned (.bool true) ∧ Below w.heap.size w w' := by
 have HAW := hid (fun W hW => e_awake W hW)
 have HMX := hid hw
 clear hs9 ht9
 by_cases h1 : (600 : Int) < (s.size : Int)
 ·have g1 : decide ((600 : Int) < (s.size : Int)) = true := decide_eq_true h1
  go_enter Tryz.func5, Tryz.ntmps5
  go_wp2_with fail
  refine (HAW.out _ hw).mono ?_
  rintro e w2 ⟨rfl, hb⟩
  go_wp2
  go_ret
  exact ⟨rfl, hb⟩
 have g1 : decide ((600 : Int) < (s.size : Int)) = false := decide_eq_false h1
 by_cases h2 : (600 : Int) < (t.size : Int)
 ·have g2 : decide ((600 : Int) < (t.size : Int)) = true := decide_eq_true h2
  go_enter Tryz.func5, Tryz.ntmps5
  go_wp2_with fail
  refine (HAW.out _ hw).mono ?_
  rintro e w2 ⟨rfl, hb⟩
  go_wp2
  go_ret
  exact ⟨rfl, hb⟩
 have g2 : decide ((600 : Int) < (t.size : Int)) = false := decide_eq_false h2
 have hfa := par_facts s.data.toList
 have hfb := par_facts t.data.toList
 obtain ⟨P, hP⟩ : ∃ P, parB s.data.toList = P := ⟨_, rfl⟩
 obtain ⟨R, hR⟩ : ∃ R, parB t.data.toList = R := ⟨_, rfl⟩
 have HPa := hid (fun W hW => bparse_all s W hW P hP)
 have HPb := hid (fun W hW => bparse_all t W hW R hR)
 rw [hP] at hfa
 rw [hR] at hfb
 obtain ⟨na, hna⟩ : ∃ na : Int, (P.2.1 : Int) = na := ⟨_, rfl⟩
 obtain ⟨ea, hea⟩ : ∃ ea : Int, P.2.2 = ea := ⟨_, rfl⟩
 obtain ⟨nb, hnb⟩ : ∃ nb : Int, (R.2.1 : Int) = nb := ⟨_, rfl⟩
 obtain ⟨eb, heb⟩ : ∃ eb : Int, R.2.2 = eb := ⟨_, rfl⟩
 obtain ⟨a, ha⟩ : ∃ a, P.1 = a := ⟨_, rfl⟩
 obtain ⟨b, hb⟩ : ∃ b, R.1 = b := ⟨_, rfl⟩
 have HNa := hid (And.intro hna (And.intro hea ha))
 have HNb := hid (And.intro hnb (And.intro heb hb))
 rw [ha] at hfa
 rw [hb] at hfb
 have HFa := hid hfa
 have HFb := hid hfb
 clear hfa hfb hP hR hna hea hnb heb ha hb h1 h2 hw
 by_cases hok : ea = 0 ∧ eb = 0
 ·obtain ⟨rfl, rfl⟩ := hok
  obtain ⟨fa, ca, da, la, wa, oa⟩ := HFa.out
  obtain ⟨fb, cb, db, lb, wb, ob⟩ := HFb.out
  obtain ⟨Q, hQ⟩ : ∃ Q : ByteArray, Q.data.toList = wrB a := ⟨ba _, ba_data _⟩
  obtain ⟨Z, hZ⟩ : ∃ Z : ByteArray, Z.data.toList = wrB b := ⟨ba _, ba_data _⟩
  have hQs : Q.size = (wrB a).length := size_of11 hQ
  have HWa := hid (fun c0 c1 c2 c3 W hW => Write_any a fa ca da la (by omega) Q hQ.symm c0 c1 c2 c3 W hW)
  have HWb := hid (fun c0 c1 c2 c3 W hW => Write_any b fb cb db lb (by omega) Z hZ.symm c0 c1 c2 c3 W hW)
  obtain ⟨r, hr⟩ : ∃ r, sameT a b = r := ⟨_, rfl⟩
  have hqz : (Q.toList == Z.toList) = r := by
   rw [← hr, ← wr_same fa fb, ByteArray.toList_eq, ByteArray.toList_eq, hQ, hZ]
   rw [Bool.eq_iff_iff]; simp
  have HSA := hid (fun (c0 c1 c2 c3 u0 u1 u2 u3 : Value) (W : World) (h : NdW W a c0 c1 c2 c3) (g : NdW W b u0 u1 u2 u3) => RSameN_any hr h g)
  clear hr
  obtain ⟨HN1, HN2, HN3⟩ := HNa.out
  obtain ⟨HN4, HN5, HN6⟩ := HNb.out
  have HNa1 := hid HNa.out
  clear HN1 HN2 HN3 HN4 HN5 HN6 fa ca da la wa fb cb db lb wb ob hZ
  go_enter Tryz.func5, Tryz.ntmps5
  go_wp2_with fail
  refine (HPa.out _ HMX.out).mono ?_
  rintro e w1 ⟨x_k, x_s, x_a, x_n, x_c, x_A, x_m, x_q, rfl, hn, hb⟩
  rw [HNa.out.1, HNa.out.2.1]
  rw [HNa.out.2.2] at hn
  have HBa := hid (bx_make hn)
  have HW := hid (b_next hb (al_below w1 (.cells #[.int .i64 x_k, .string x_s, .slice x_a x_n x_c, .slice x_A x_m x_q] 25)))
  clear hn hb HPa
  go_wp2_with fail
  generalize w1.alloc (.cells #[.int .i64 x_k, .string x_s, .slice x_a x_n x_c, .slice x_A x_m x_q] 25) = W1 at *
  generalize w1.heap.size = ga at *
  refine (HPb.out _ (HMX.out.keep HW.out)).mono ?_
  rintro e w2 ⟨y_k, y_s, y_a, y_n, y_c, y_A, y_m, y_q, rfl, hn, hb⟩
  rw [HNb.out.1, HNb.out.2.1]
  rw [HNb.out.2.2] at hn
  have HBb := hid (bx_make hn)
  have HBa2 := hid ((HBa.out.go hb).go (al_below w2 (.cells #[.int .i64 y_k, .string y_s, .slice y_a y_n y_c, .slice y_A y_m y_q] 25)))
  replace HW := hid (b_next (b_next HW.out hb) (al_below w2 (.cells #[.int .i64 y_k, .string y_s, .slice y_a y_n y_c, .slice y_A y_m y_q] 25)))
  clear hn hb HPb HBa
  go_upto_region 7 with fail
  generalize w2.alloc (.cells #[.int .i64 y_k, .string y_s, .slice y_a y_n y_c, .slice y_A y_m y_q] 25) = W2 at *
  generalize w2.heap.size = gb at *
  obtain ⟨x0, x1, x2, x3⟩ := HBa2.out.1.cells
  go_wp2_with fail
  refine (HWa.out _ _ _ _ _ HBa2.out.2).mono ?_
  rintro e w3 ⟨rfl, hb⟩
  have HEA : Hid (EA w ga gb a b (.int .i64 x_k) (.string x_s) (.slice x_a x_n x_c) (.slice x_A x_m x_q) (.int .i64 y_k) (.string y_s) (.slice y_a y_n y_c) (.slice y_A y_m y_q) w3) := hid ⟨b_next HW.out hb, HBa2.out.go hb, HBb.out.go hb⟩
  clear hb HW HBa2 HBb x0 x1 x2 x3
  by_cases hbig : (Q.size : Int) ≤ 8192
  ·have gbig : decide ((Q.size : Int) ≤ 8192) = true := decide_eq_true hbig
   have HPR := hid (fun W hW => bparse_all Q W hW (a, 0, 0) (by rw [hQ]; exact par_wr oa (by omega)))
   clear hQs hQ oa
   go_wp2_with fail
   refine (HPR.out _ (HMX.out.keep HEA.out.1)).mono ?_
   rintro e w4 ⟨m_k, m_s, m_a, m_n, m_c, m_A, m_m, m_q, rfl, hm, hb⟩
   have hm2 : NdW w4 a (.int .i64 m_k) (.string m_s) (.slice m_a m_n m_c) (.slice m_A m_m m_q) := hm
   rw [show (((a, 0, 0) : Nd × Nat × Int).2.1 : Int) = 0 from rfl, show ((a, 0, 0) : Nd × Nat × Int).2.2 = 0 from rfl]
   have HBm := hid (bx_make hm2)
   replace HEA := hid ((HEA.out.go hb).go (al_below w4 (.cells #[.int .i64 m_k, .string m_s, .slice m_a m_n m_c, .slice m_A m_m m_q] 25)))
   clear hm hm2 hb HPR
   go_upto_region 9 with fail
   generalize w4.alloc (.cells #[.int .i64 m_k, .string m_s, .slice m_a m_n m_c, .slice m_A m_m m_q] 25) = W4 at *
   generalize w4.heap.size = gm at *
   obtain ⟨x0, x1, x2, x3⟩ := HEA.out.2.1.1.cells
   obtain ⟨z0, z1, z2, z3⟩ := HBm.out.1.cells
   go_wp2_with fail
   refine (RSameN_any (same_refl a) HBm.out.2 HEA.out.2.1.2).mono ?_
   rintro e w5 ⟨rfl, hb⟩
   have HBm2 := hid (HBm.out.go hb)
   replace HEA := hid (HEA.out.go hb)
   clear hb x0 x1 x2 x3 z0 z1 z2 z3 HBm
   obtain ⟨z0, z1, z2, z3⟩ := HBm2.out.1.cells
   go_wp2_with fail
   refine (HWa.out _ _ _ _ _ HBm2.out.2).mono ?_
   rintro e W9 ⟨rfl, hb⟩
   replace HEA := hid (HEA.out.go hb)
   clear hb z0 z1 z2 z3 HBm2
   obtain ⟨x0, x1, x2, x3⟩ := HEA.out.2.1.1.cells
   obtain ⟨z0, z1, z2, z3⟩ := HEA.out.2.2.1.cells
   go_upto_region 11 with fail
   have HE := hid (show ∀ W, EA w ga gb a b (.int .i64 x_k) (.string x_s) (.slice x_a x_n x_c) (.slice x_A x_m x_q) (.int .i64 y_k) (.string y_s) (.slice y_a y_n y_c) (.slice y_A y_m y_q) W → W.cell? ⟨ga, 0, none⟩ = some (.int .i64 x_k) ∧ W.cell? ⟨ga, 1, none⟩ = some (.string x_s) ∧ W.cell? ⟨ga, 2, none⟩ = some (.slice x_a x_n x_c) ∧ W.cell? ⟨ga, 3, none⟩ = some (.slice x_A x_m x_q) ∧ W.cell? ⟨gb, 0, none⟩ = some (.int .i64 y_k) ∧ W.cell? ⟨gb, 1, none⟩ = some (.string y_s) ∧ W.cell? ⟨gb, 2, none⟩ = some (.slice y_a y_n y_c) ∧ W.cell? ⟨gb, 3, none⟩ = some (.slice y_A y_m y_q) ∧ EA w ga gb a b (.int .i64 x_k) (.string x_s) (.slice x_a x_n x_c) (.slice x_A x_m x_q) (.int .i64 y_k) (.string y_s) (.slice y_a y_n y_c) (.slice y_A y_m y_q) W from fun W h => ⟨h.2.1.1.cells.1, h.2.1.1.cells.2.1, h.2.1.1.cells.2.2.1, h.2.1.1.cells.2.2.2, h.2.2.1.cells.1, h.2.2.1.cells.2.1, h.2.2.1.cells.2.2.1, h.2.2.1.cells.2.2.2, h⟩)
   have hE1 : EA w ga gb a b (.int .i64 x_k) (.string x_s) (.slice x_a x_n x_c) (.slice x_A x_m x_q) (.int .i64 y_k) (.string y_s) (.slice y_a y_n y_c) (.slice y_A y_m y_q) W9.drew := HEA.out.go (drewN_q W9 1)
   have hS1 := HE.out _ hE1
   clear x0 x1 x2 x3 z0 z1 z2 z3
   go_region_held3 (fun W => W.cell? ⟨ga, 0, none⟩ = some (.int .i64 x_k) ∧ W.cell? ⟨ga, 1, none⟩ = some (.string x_s) ∧ W.cell? ⟨ga, 2, none⟩ = some (.slice x_a x_n x_c) ∧ W.cell? ⟨ga, 3, none⟩ = some (.slice x_A x_m x_q) ∧ W.cell? ⟨gb, 0, none⟩ = some (.int .i64 y_k) ∧ W.cell? ⟨gb, 1, none⟩ = some (.string y_s) ∧ W.cell? ⟨gb, 2, none⟩ = some (.slice y_a y_n y_c) ∧ W.cell? ⟨gb, 3, none⟩ = some (.slice y_A y_m y_q) ∧ EA w ga gb a b (.int .i64 x_k) (.string x_s) (.slice x_a x_n x_c) (.slice x_A x_m x_q) (.int .i64 y_k) (.string y_s) (.slice y_a y_n y_c) (.slice y_A y_m y_q) W) (first | exact hS1 | exact hS2 | exact hS3 | exact hS4)
    (first
     | (go_at_call 8; refine (HWb.out _ _ _ _ _ (EA.nb (by assumption))).mono ?_; rintro e2 w12 ⟨rfl, hb12⟩; have hE2 := EA.go (by assumption) hb12; have hS2 := HE.out _ hE2)
     | (go_at_call 14; refine (HSA.out _ _ _ _ _ _ _ _ _ (EA.na (by assumption)) (EA.nb (by assumption))).mono ?_; rintro e3 w13 ⟨rfl, hb13⟩; have hE3 := EA.go (by assumption) hb13; have hS3 := HE.out _ hE3)
     | (go_at_call 7; refine (HAW.out _ (HMX.out.keep (EA.low (by assumption)))).mono ?_; rintro e4 w14 ⟨rfl, hb14⟩; have hE4 := EA.go (by assumption) hb14; have hS4 := HE.out _ hE4))
   all_goals
    have HR := hid hE4.1
    clear hS1 hE1 hE4 hS4
    go_wp2
    go_ret
    exact ⟨rfl, HR.out⟩
  ·have gbig : decide ((Q.size : Int) ≤ 8192) = false := decide_eq_false hbig
   have HPR := hid (fun W hW => bparse_all Q W hW (nul, 0, 9) (by rw [hQ]; exact par_long (by omega)))
   clear hQs hQ oa
   go_wp2_with fail
   refine (HPR.out _ (HMX.out.keep HEA.out.1)).mono ?_
   rintro e w4 ⟨m_k, m_s, m_a, m_n, m_c, m_A, m_m, m_q, rfl, -, hb⟩
   rw [show (((nul, 0, 9) : Nd × Nat × Int).2.1 : Int) = 0 from rfl, show ((nul, 0, 9) : Nd × Nat × Int).2.2 = 9 from rfl]
   replace HEA := hid ((HEA.out.go hb).go (al_below w4 (.cells #[.int .i64 m_k, .string m_s, .slice m_a m_n m_c, .slice m_A m_m m_q] 25)))
   clear hb HPR
   go_upto_region 11 with fail
   generalize w4.alloc (.cells #[.int .i64 m_k, .string m_s, .slice m_a m_n m_c, .slice m_A m_m m_q] 25) = W9 at *
   generalize w4.heap.size = gm at *
   obtain ⟨x0, x1, x2, x3⟩ := HEA.out.2.1.1.cells
   obtain ⟨z0, z1, z2, z3⟩ := HEA.out.2.2.1.cells
   have HE := hid (show ∀ W, EA w ga gb a b (.int .i64 x_k) (.string x_s) (.slice x_a x_n x_c) (.slice x_A x_m x_q) (.int .i64 y_k) (.string y_s) (.slice y_a y_n y_c) (.slice y_A y_m y_q) W → W.cell? ⟨ga, 0, none⟩ = some (.int .i64 x_k) ∧ W.cell? ⟨ga, 1, none⟩ = some (.string x_s) ∧ W.cell? ⟨ga, 2, none⟩ = some (.slice x_a x_n x_c) ∧ W.cell? ⟨ga, 3, none⟩ = some (.slice x_A x_m x_q) ∧ W.cell? ⟨gb, 0, none⟩ = some (.int .i64 y_k) ∧ W.cell? ⟨gb, 1, none⟩ = some (.string y_s) ∧ W.cell? ⟨gb, 2, none⟩ = some (.slice y_a y_n y_c) ∧ W.cell? ⟨gb, 3, none⟩ = some (.slice y_A y_m y_q) ∧ EA w ga gb a b (.int .i64 x_k) (.string x_s) (.slice x_a x_n x_c) (.slice x_A x_m x_q) (.int .i64 y_k) (.string y_s) (.slice y_a y_n y_c) (.slice y_A y_m y_q) W from fun W h => ⟨h.2.1.1.cells.1, h.2.1.1.cells.2.1, h.2.1.1.cells.2.2.1, h.2.1.1.cells.2.2.2, h.2.2.1.cells.1, h.2.2.1.cells.2.1, h.2.2.1.cells.2.2.1, h.2.2.1.cells.2.2.2, h⟩)
   have hE1 : EA w ga gb a b (.int .i64 x_k) (.string x_s) (.slice x_a x_n x_c) (.slice x_A x_m x_q) (.int .i64 y_k) (.string y_s) (.slice y_a y_n y_c) (.slice y_A y_m y_q) W9.drew := HEA.out.go (drewN_q W9 1)
   have hS1 := HE.out _ hE1
   clear x0 x1 x2 x3 z0 z1 z2 z3
   go_region_held3 (fun W => W.cell? ⟨ga, 0, none⟩ = some (.int .i64 x_k) ∧ W.cell? ⟨ga, 1, none⟩ = some (.string x_s) ∧ W.cell? ⟨ga, 2, none⟩ = some (.slice x_a x_n x_c) ∧ W.cell? ⟨ga, 3, none⟩ = some (.slice x_A x_m x_q) ∧ W.cell? ⟨gb, 0, none⟩ = some (.int .i64 y_k) ∧ W.cell? ⟨gb, 1, none⟩ = some (.string y_s) ∧ W.cell? ⟨gb, 2, none⟩ = some (.slice y_a y_n y_c) ∧ W.cell? ⟨gb, 3, none⟩ = some (.slice y_A y_m y_q) ∧ EA w ga gb a b (.int .i64 x_k) (.string x_s) (.slice x_a x_n x_c) (.slice x_A x_m x_q) (.int .i64 y_k) (.string y_s) (.slice y_a y_n y_c) (.slice y_A y_m y_q) W) (first | exact hS1 | exact hS2 | exact hS3 | exact hS4)
    (first
     | (go_at_call 8; refine (HWb.out _ _ _ _ _ (EA.nb (by assumption))).mono ?_; rintro e2 w12 ⟨rfl, hb12⟩; have hE2 := EA.go (by assumption) hb12; have hS2 := HE.out _ hE2)
     | (go_at_call 14; refine (HSA.out _ _ _ _ _ _ _ _ _ (EA.na (by assumption)) (EA.nb (by assumption))).mono ?_; rintro e3 w13 ⟨rfl, hb13⟩; have hE3 := EA.go (by assumption) hb13; have hS3 := HE.out _ hE3)
     | (go_at_call 7; refine (HAW.out _ (HMX.out.keep (EA.low (by assumption)))).mono ?_; rintro e4 w14 ⟨rfl, hb14⟩; have hE4 := EA.go (by assumption) hb14; have hS4 := HE.out _ hE4))
   all_goals
    have HR := hid hE4.1
    clear hS1 hE1 hE4 hS4
    go_wp2
    go_ret
    exact ⟨rfl, HR.out⟩
 ·have HOK := hid hok
  have hgo : ¬ ea = 0 ∨ (ea = 0 ∧ ¬ eb = 0) := by
   by_cases h : ea = 0
   ·exact .inr ⟨h, fun e => hok ⟨h, e⟩⟩
   ·exact .inl h
  clear hok HOK HFa HFb
  rcases hgo with he | ⟨rfl, he⟩
  ·have g5 : (ea != 0) = true := bne_iff_ne.2 he
   clear he
   go_enter Tryz.func5, Tryz.ntmps5
   go_wp2_with fail
   refine (HPa.out _ HMX.out).mono ?_
   rintro e w1 ⟨x_k, x_s, x_a, x_n, x_c, x_A, x_m, x_q, rfl, -, hb⟩
   rw [HNa.out.1, HNa.out.2.1]
   have HW := hid (b_next hb (al_below w1 (.cells #[.int .i64 x_k, .string x_s, .slice x_a x_n x_c, .slice x_A x_m x_q] 25)))
   clear hb HPa
   go_wp2_with fail
   generalize w1.alloc (.cells #[.int .i64 x_k, .string x_s, .slice x_a x_n x_c, .slice x_A x_m x_q] 25) = W1 at *
   generalize w1.heap.size = ga at *
   refine (HPb.out _ (HMX.out.keep HW.out)).mono ?_
   rintro e w2 ⟨y_k, y_s, y_a, y_n, y_c, y_A, y_m, y_q, rfl, -, hb⟩
   rw [HNb.out.1, HNb.out.2.1]
   replace HW := hid (b_next (b_next HW.out hb) (al_below w2 (.cells #[.int .i64 y_k, .string y_s, .slice y_a y_n y_c, .slice y_A y_m y_q] 25)))
   clear hb HPb
   go_wp2_with fail
   generalize w2.alloc (.cells #[.int .i64 y_k, .string y_s, .slice y_a y_n y_c, .slice y_A y_m y_q] 25) = W2 at *
   refine (HAW.out _ (HMX.out.keep HW.out)).mono ?_
   rintro e w3 ⟨rfl, hb⟩
   go_wp2
   go_ret
   exact ⟨rfl, b_next HW.out hb⟩
  ·have g5 : (eb != 0) = true := bne_iff_ne.2 he
   clear he
   go_enter Tryz.func5, Tryz.ntmps5
   go_wp2_with fail
   refine (HPa.out _ HMX.out).mono ?_
   rintro e w1 ⟨x_k, x_s, x_a, x_n, x_c, x_A, x_m, x_q, rfl, -, hb⟩
   rw [HNa.out.1, HNa.out.2.1]
   have HW := hid (b_next hb (al_below w1 (.cells #[.int .i64 x_k, .string x_s, .slice x_a x_n x_c, .slice x_A x_m x_q] 25)))
   clear hb HPa
   go_wp2_with fail
   generalize w1.alloc (.cells #[.int .i64 x_k, .string x_s, .slice x_a x_n x_c, .slice x_A x_m x_q] 25) = W1 at *
   generalize w1.heap.size = ga at *
   refine (HPb.out _ (HMX.out.keep HW.out)).mono ?_
   rintro e w2 ⟨y_k, y_s, y_a, y_n, y_c, y_A, y_m, y_q, rfl, -, hb⟩
   rw [HNb.out.1, HNb.out.2.1]
   replace HW := hid (b_next (b_next HW.out hb) (al_below w2 (.cells #[.int .i64 y_k, .string y_s, .slice y_a y_n y_c, .slice y_A y_m y_q] 25)))
   clear hb HPb
   go_wp2_with fail
   generalize w2.alloc (.cells #[.int .i64 y_k, .string y_s, .slice y_a y_n y_c, .slice y_A y_m y_q] 25) = W2 at *
   refine (HAW.out _ (HMX.out.keep HW.out)).mono ?_
   rintro e w3 ⟨rfl, hb⟩
   go_wp2
   go_ret
   exact ⟨rfl, b_next HW.out hb⟩
theorem EmitAgain_row (s t : ByteArray) (w : World) (hw : SomeMax w) (hs : s.size ≤ maxLen) (ht : t.size ≤ maxLen) :
  Calls Tryz.prog 5 #[.string s, .string t] w fun e w' => e = .returned (.bool true) ∧ Below w.heap.size w w' := EmitAgain_walk s t hs ht w hw
end
end Go.Proofs.YtmdgpejedbkkdaaGreatDoor
