/- BloLaw -/
import Derived.BigQuiet
import Derived.Deep.CutRange
import Derived.Test.YtecglpocmhkkiaaGreatDoorST14
import Derived.Test.YtecglpocmhkkiaaGreatDoorST18
import Derived.Test.YtecglpocmhkkiaaGreatDoorST44
set_option linter.unusedVariables false
set_option linter.unusedSimpArgs false
set_option maxRecDepth 100000
set_option maxHeartbeats 16000000
open Go.Lib (hid)
namespace Go.Proofs.YtecglpocmhkkiaaGreatDoor
open Go.RowKit Go.Sort
open Nw N8 Q6 F9 B10
namespace B10
theorem ex_ok10 : okT 2000 exB = true := (ok_iff (most := 2000)).2 ⟨(blk_fine ex_blk).1, by decide, by decide⟩
theorem ex_par10 : parB [97, 58, 10, 45, 32, 120, 10, 45, 32, 98, 58, 32, 49, 10, 32, 32, 99, 58, 32, 91, 50, 93, 10] = (exB, 0, 0) := by
 rw [par_cons ex_file, ex_blk, parK_end (by decide), ex_ok10]
 rfl
end B10
def BParseC : Prop := ∀ (s : ByteArray) (w : World), SomeMax w → s.size ≤ 8000 → ∀ P, parB s.data.toList = P → Calls Tryz.prog 7 #[.string s] w (ParL P w)
theorem al_below (w : World) (o : Obj) : Below w.heap.size w (w.alloc o) := (Below.refl _ _).alloc (Nat.le_refl _) _
def BX (W : World) (g : Nat) (d : Nd) (c0 c1 c2 c3 : Value) : Prop := Row4 W g 26 c0 c1 c2 c3 ∧ NdW W d c0 c1 c2 c3
theorem BX.go {W W' : World} {g : Nat} {d : Nd} {c0 c1 c2 c3 : Value} (h : BX W g d c0 c1 c2 c3) (hb : Below W.heap.size W W') : BX W' g d c0 c1 c2 c3 := ⟨h.1.below hb h.1.lt, h.2.below hb⟩
theorem bx_make {w : World} {d : Nd} {c0 c1 c2 c3 : Value} (h : NdW w d c0 c1 c2 c3) : BX (w.alloc (.cells #[c0, c1, c2, c3] 26)) w.heap.size d c0 c1 c2 c3 :=
 ⟨Row4.make w _ _ _ _ _, h.below (al_below w _)⟩
theorem RSame_of {d : Nd} {c0 c1 c2 c3 u0 u1 u2 u3 : Value} {w : World} (h : NdW w d c0 c1 c2 c3) (g : NdW w d u0 u1 u2 u3) :
  Calls Tryz.prog 9 #[.agg #[c0, c1, c2, c3], .agg #[u0, u1, u2, u3]] w fun x w' => x = .returned (.bool true) ∧ Below w.heap.size w w' :=
 RSameT_any (cntT d) d d (Nat.le_refl _) true (sameT_refl _ d (Nat.le_refl _)) c0 c1 c2 c3 u0 u1 u2 u3 w h g
theorem b_next {w w1 w2 : World} (h : Below w.heap.size w w1) (g : Below w1.heap.size w1 w2) : Below w.heap.size w w2 := h.trans (g.mono h.size)
theorem b_awake (HP : BParseC) (w : World) (hw : SomeMax w) : Calls Tryz.prog 6 #[] w fun e w' => e = .returned (.bool true) ∧ Below w.heap.size w w' := by
 have H1 := hid (HP ⟨#[97, 58, 10, 45, 32, 120, 10, 45, 32, 98, 58, 32, 49, 10, 32, 32, 99, 58, 32, 91, 50, 93, 10]⟩ w hw (by decide) _ ex_par10)
 have H2 := hid (fun W hW => HP ⟨#[97, 58, 32, 49, 10, 32, 32, 98, 58, 32, 50, 10]⟩ W hW (by decide) _ ex_par10b)
 have HMX := hid hw
 clear HP hw
 go_enter Tryz.func6, Tryz.ntmps6
 go_wp2_with fail
 refine H1.out.mono ?_
 rintro e w1 ⟨m_k, m_s, m_a, m_n, m_c, m_A, m_m, m_q, rfl, hn, hb⟩
 have hn2 : NdW w1 exB (.int .i64 m_k) (.string m_s) (.slice m_a m_n m_c) (.slice m_A m_m m_q) := hn
 rw [show (((exB, 0, 0) : Nd × Nat × Int).2.1 : Int) = 0 from rfl, show ((exB, 0, 0) : Nd × Nat × Int).2.2 = 0 from rfl]
 have HB := hid (bx_make hn2)
 have HW := hid (b_next hb (al_below w1 (.cells #[.int .i64 m_k, .string m_s, .slice m_a m_n m_c, .slice m_A m_m m_q] 26)))
 clear hn hn2 hb H1
 go_wp2_with fail
 generalize w1.alloc (.cells #[.int .i64 m_k, .string m_s, .slice m_a m_n m_c, .slice m_A m_m m_q] 26) = W1 at *
 generalize w1.heap.size = gm at *
 refine (H2.out W1 (HMX.out.keep HW.out)).mono ?_
 rintro e w2 ⟨x_k, x_s, x_a, x_n, x_c, x_A, x_m, x_q, rfl, hn, hb⟩
 rw [show (((nul, 2, 3) : Nd × Nat × Int).2.1 : Int) = 2 from rfl, show ((nul, 2, 3) : Nd × Nat × Int).2.2 = 3 from rfl]
 have HB2 := hid ((HB.out.go hb).go (al_below w2 (.cells #[.int .i64 x_k, .string x_s, .slice x_a x_n x_c, .slice x_A x_m x_q] 26)))
 have HW2 := hid (b_next (b_next HW.out hb) (al_below w2 (.cells #[.int .i64 x_k, .string x_s, .slice x_a x_n x_c, .slice x_A x_m x_q] 26)))
 clear hn hb H2 HB HW
 go_upto_region 3 with fail
 generalize w2.alloc (.cells #[.int .i64 x_k, .string x_s, .slice x_a x_n x_c, .slice x_A x_m x_q] 26) = W2 at *
 generalize w2.heap.size = gx at *
 obtain ⟨b0, b1, b2, b3⟩ := HB2.out.1.cells
 obtain ⟨-, -, hks0, A0, cap0, hA0, -, -, -, hkid⟩ := HB2.out.2.parts
 obtain ⟨a1, c1, hs1, -, -⟩ := rd_slice hks0
 injection hs1 with hs1 hs2 _
 obtain rfl : m_n = 1 := hs2
 injection hA0 with hA0 hm0 _
 obtain rfl : m_m = 1 := hm0
 obtain ⟨b, o, e0, e1, e2, e3, hA1, -, y0, y1, y2, y3, hnd⟩ := hkid 0 (by decide)
 have hmA : m_A = some ⟨b, o, none⟩ := hA0.trans hA1
 subst hmA
 have hnd2 : NdW W2 (.mk 2 [] [] [txt [120], .mk 3 [] [[98], [99]] [txt [49], .mk 2 [] [] [txt [50]]]]) e0 e1 e2 e3 := hnd
 obtain ⟨-, -, -, A2, cap2, rfl, -, -, -, hkid2⟩ := hnd2.parts
 obtain ⟨b', o', f0, f1, f2, f3, hA2, -, z0, z1, z2, z3, hnf⟩ := hkid2 1 (by decide)
 subst hA2
 have hnf2 : NdW W2 (.mk 3 [] [[98], [99]] [txt [49], .mk 2 [] [] [txt [50]]]) f0 f1 f2 f3 := hnf
 obtain ⟨-, -, hks2, -⟩ := hnf2.parts
 obtain ⟨a3, c3, rfl, -, -⟩ := rd_slice hks2
 have y3' : W2.cell? ⟨b, o + 3, none⟩ = some (.slice (some ⟨b', o', none⟩) 2 cap2) := by rw [Nat.zero_mul] at y3; exact y3
 have z2' : W2.cell? ⟨b', o' + 6, none⟩ = some (.slice a3 2 c3) := z2
 clear y0 y1 y2 y3 z0 z1 z2 z3 hnf hnf2 hnd hnd2 hks0 hks2 hkid hkid2 hA0 hA1 hs1 HMX
 go_wp2
 go_ret
 exact ⟨rfl, HW2.out⟩
theorem BlockSpread_law (HPC : BParseC) (s : ByteArray) (three : Bool) (hs : s.size ≤ maxLen) (w : World) (hw : SomeMax w) :
  Calls Tryz.prog 5 #[.string s, .bool three] w fun e w' => e = .returned (.bool true) ∧ Below w.heap.size w w' := by
 have HAW := hid (fun W hW => b_awake HPC W hW)
 have HMX := hid hw
 have HCP := hid HPC
 by_cases h2 : (1500 : Int) < (s.size : Int)
 ·go_enter Tryz.func5, Tryz.ntmps5
  go_wp2_with fail
  refine (HAW.out _ hw).mono ?_
  rintro e w2 ⟨rfl, hb⟩
  go_wp2
  go_ret
  exact ⟨rfl, hb⟩
 have hs2 : s.size ≤ 1500 := by omega
 have HLO := hid (fun W => lone_any s W (by omega))
 have HSPR := hid (fun (t : Nat) (ht : t ≤ 3) (R : ByteArray) (hR : sprL t s.data.toList = R.data.toList) W => spread_any s t ht W (by omega) R hR)
 obtain ⟨Q, hQ⟩ : ∃ Q, parB s.data.toList = Q := ⟨_, rfl⟩
 have H1 := hid (fun W hW => HPC s W hW (by omega) Q hQ)
 have HQ := hid hQ
 have hnl : ¬ (1500 : Int) < (s.size : Int) := h2
 clear HPC hw hQ
 go_enter Tryz.func5, Tryz.ntmps5
 go_wp2_with fail
 refine (HLO.out _).mono ?_
 rintro e w' ⟨b, rfl, rfl, hlo⟩
 cases b with
 | false =>
  go_wp2_with fail
  refine (HAW.out _ HMX.out).mono ?_
  rintro e w2 ⟨rfl, hb⟩
  go_wp2
  go_ret
  exact ⟨rfl, hb⟩
 | true =>
 have HL := hid (hlo rfl)
 clear hlo HLO
 cases three with
 | false =>
  obtain ⟨R, hR⟩ : ∃ R : ByteArray, ba (sprL 2 s.data.toList) = R := ⟨_, rfl⟩
  have hRl : sprL 2 s.data.toList = R.data.toList := by rw [← hR, ba_data]
  have HSQ : Hid (∀ W, Calls Tryz.prog 15 #[.string s, .int .i64 2] W fun e w' => e = .returned (.string R) ∧ Below W.heap.size W w') := hid (fun W => HSPR.out 2 (by omega) R hRl W)
  have HRL := hid hRl
  clear hR hRl HSPR
  go_wp2_with fail
  refine (HSQ.out _).mono ?_
  rintro e w1 ⟨rfl, hb1⟩
  have HW1 := hid hb1
  clear hb1 HSQ
  by_cases h8 : (8000 : Int) < (R.size : Int)
  ·go_wp2_with fail
   refine (HAW.out _ (HMX.out.keep HW1.out)).mono ?_
   rintro e w2 ⟨rfl, hb⟩
   go_wp2
   go_ret
   exact ⟨rfl, b_next HW1.out hb⟩
  ·have hr8 : R.size ≤ 8000 := by omega
   obtain ⟨V, hV⟩ : ∃ V, parB R.data.toList = V := ⟨_, rfl⟩
   have H2 := hid (fun W hW => HCP.out R W hW hr8 V hV)
   have HEQ : Hid (V.1 = Q.1 ∧ V.2.2 = Q.2.2) := hid (by
    have h := spread_par (t := 2) (by omega) HL.out (by rw [len_eq]; omega) (by rw [HRL.out, len_eq]; omega)
    rw [HRL.out, hV, HQ.out] at h
    exact h)
   clear hV
   go_wp2_with fail
   refine (H1.out _ (HMX.out.keep HW1.out)).mono ?_
   rintro e w2 ⟨m_k, m_s, m_a, m_n, m_c, m_A, m_m, m_q, rfl, hn, hb⟩
   obtain ⟨no, hno⟩ : ∃ no : Int, (Q.2.1 : Int) = no := ⟨_, rfl⟩
   obtain ⟨E, hE⟩ : ∃ E : Int, Q.2.2 = E := ⟨_, rfl⟩
   have HE := hid hE
   rw [hno, hE]
   have HB := hid (bx_make hn)
   have HW := hid (b_next (b_next HW1.out hb) (al_below w2 (.cells #[.int .i64 m_k, .string m_s, .slice m_a m_n m_c, .slice m_A m_m m_q] 26)))
   clear hn hb H1 hno hE HW1
   go_wp2_with fail
   generalize w2.alloc (.cells #[.int .i64 m_k, .string m_s, .slice m_a m_n m_c, .slice m_A m_m m_q] 26) = W1 at *
   generalize w2.heap.size = gm at *
   refine (H2.out W1 (HMX.out.keep HW.out)).mono ?_
   rintro e w3 ⟨x_k, x_s, x_a, x_n, x_c, x_A, x_m, x_q, rfl, hn, hb⟩
   rw [HEQ.out.2, HE.out]
   rw [HEQ.out.1] at hn
   obtain ⟨no2, hno2⟩ : ∃ no : Int, (V.2.1 : Int) = no := ⟨_, rfl⟩
   rw [hno2]
   have HB2 := hid ((HB.out.go hb).go (al_below w3 (.cells #[.int .i64 x_k, .string x_s, .slice x_a x_n x_c, .slice x_A x_m x_q] 26)))
   have HBx := hid (bx_make hn)
   have HW2 := hid (b_next (b_next HW.out hb) (al_below w3 (.cells #[.int .i64 x_k, .string x_s, .slice x_a x_n x_c, .slice x_A x_m x_q] 26)))
   clear hn hb H2 HB HW hno2
   go_upto_region 11 with fail
   generalize w3.alloc (.cells #[.int .i64 x_k, .string x_s, .slice x_a x_n x_c, .slice x_A x_m x_q] 26) = W2 at *
   generalize w3.heap.size = gx at *
   obtain ⟨b0, b1, b2, b3⟩ := HB2.out.1.cells
   obtain ⟨z0, z1, z2, z3⟩ := HBx.out.1.cells
   go_wp2_with fail
   refine (RSame_of HB2.out.2 HBx.out.2).mono ?_
   rintro e w4 ⟨rfl, hb3⟩
   have HW3 := hid (b_next HW2.out hb3)
   clear hb3 HW2 HB2 HBx b0 b1 b2 b3 z0 z1 z2 z3
   go_wp2_with fail
   refine (HAW.out _ (HMX.out.keep HW3.out)).mono ?_
   rintro e w5 ⟨rfl, hb5⟩
   go_wp2
   go_ret
   exact ⟨rfl, b_next HW3.out hb5⟩
 | true =>
  obtain ⟨R, hR⟩ : ∃ R : ByteArray, ba (sprL 3 s.data.toList) = R := ⟨_, rfl⟩
  have hRl : sprL 3 s.data.toList = R.data.toList := by rw [← hR, ba_data]
  have HSQ : Hid (∀ W, Calls Tryz.prog 15 #[.string s, .int .i64 3] W fun e w' => e = .returned (.string R) ∧ Below W.heap.size W w') := hid (fun W => HSPR.out 3 (by omega) R hRl W)
  have HRL := hid hRl
  clear hR hRl HSPR
  go_wp2_with fail
  refine (HSQ.out _).mono ?_
  rintro e w1 ⟨rfl, hb1⟩
  have HW1 := hid hb1
  clear hb1 HSQ
  by_cases h8 : (8000 : Int) < (R.size : Int)
  ·go_wp2_with fail
   refine (HAW.out _ (HMX.out.keep HW1.out)).mono ?_
   rintro e w2 ⟨rfl, hb⟩
   go_wp2
   go_ret
   exact ⟨rfl, b_next HW1.out hb⟩
  ·have hr8 : R.size ≤ 8000 := by omega
   obtain ⟨V, hV⟩ : ∃ V, parB R.data.toList = V := ⟨_, rfl⟩
   have H2 := hid (fun W hW => HCP.out R W hW hr8 V hV)
   have HEQ : Hid (V.1 = Q.1 ∧ V.2.2 = Q.2.2) := hid (by
    have h := spread_par (t := 3) (by omega) HL.out (by rw [len_eq]; omega) (by rw [HRL.out, len_eq]; omega)
    rw [HRL.out, hV, HQ.out] at h
    exact h)
   clear hV
   go_wp2_with fail
   refine (H1.out _ (HMX.out.keep HW1.out)).mono ?_
   rintro e w2 ⟨m_k, m_s, m_a, m_n, m_c, m_A, m_m, m_q, rfl, hn, hb⟩
   obtain ⟨no, hno⟩ : ∃ no : Int, (Q.2.1 : Int) = no := ⟨_, rfl⟩
   obtain ⟨E, hE⟩ : ∃ E : Int, Q.2.2 = E := ⟨_, rfl⟩
   have HE := hid hE
   rw [hno, hE]
   have HB := hid (bx_make hn)
   have HW := hid (b_next (b_next HW1.out hb) (al_below w2 (.cells #[.int .i64 m_k, .string m_s, .slice m_a m_n m_c, .slice m_A m_m m_q] 26)))
   clear hn hb H1 hno hE HW1
   go_wp2_with fail
   generalize w2.alloc (.cells #[.int .i64 m_k, .string m_s, .slice m_a m_n m_c, .slice m_A m_m m_q] 26) = W1 at *
   generalize w2.heap.size = gm at *
   refine (H2.out W1 (HMX.out.keep HW.out)).mono ?_
   rintro e w3 ⟨x_k, x_s, x_a, x_n, x_c, x_A, x_m, x_q, rfl, hn, hb⟩
   rw [HEQ.out.2, HE.out]
   rw [HEQ.out.1] at hn
   obtain ⟨no2, hno2⟩ : ∃ no : Int, (V.2.1 : Int) = no := ⟨_, rfl⟩
   rw [hno2]
   have HB2 := hid ((HB.out.go hb).go (al_below w3 (.cells #[.int .i64 x_k, .string x_s, .slice x_a x_n x_c, .slice x_A x_m x_q] 26)))
   have HBx := hid (bx_make hn)
   have HW2 := hid (b_next (b_next HW.out hb) (al_below w3 (.cells #[.int .i64 x_k, .string x_s, .slice x_a x_n x_c, .slice x_A x_m x_q] 26)))
   clear hn hb H2 HB HW hno2
   go_upto_region 11 with fail
   generalize w3.alloc (.cells #[.int .i64 x_k, .string x_s, .slice x_a x_n x_c, .slice x_A x_m x_q] 26) = W2 at *
   generalize w3.heap.size = gx at *
   obtain ⟨b0, b1, b2, b3⟩ := HB2.out.1.cells
   obtain ⟨z0, z1, z2, z3⟩ := HBx.out.1.cells
   go_wp2_with fail
   refine (RSame_of HB2.out.2 HBx.out.2).mono ?_
   rintro e w4 ⟨rfl, hb3⟩
   have HW3 := hid (b_next HW2.out hb3)
   clear hb3 HW2 HB2 HBx b0 b1 b2 b3 z0 z1 z2 z3
   go_wp2_with fail
   refine (HAW.out _ (HMX.out.keep HW3.out)).mono ?_
   rintro e w5 ⟨rfl, hb5⟩
   go_wp2
   go_ret
   exact ⟨rfl, b_next HW3.out hb5⟩
end Go.Proofs.YtecglpocmhkkiaaGreatDoor
