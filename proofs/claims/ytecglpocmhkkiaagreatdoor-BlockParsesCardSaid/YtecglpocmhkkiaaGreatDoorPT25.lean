/- RefFlo8, RefBlo4 -/
import Derived.Test.YtecglpocmhkkiaaGreatDoorPT22
import Derived.Test.YtecglpocmhkkiaaGreatDoorPT24
import Derived.Test.YtecglpocmhkkiaaGreatDoorPT3
set_option linter.unusedVariables false
set_option linter.unusedSimpArgs false
set_option maxRecDepth 100000
set_option maxHeartbeats 16000000
open Go.Lib (hid)
namespace Go.Proofs.YtecglpocmhkkiaaGreatDoor
section
open Go.RowKit Go.Sort
open Nw N8 Q6 F9 Go.ChangeShapes Go.WideShapes
def ParA (w : World) (P : Option Nd) (e : Ending) (w' : World) : Prop := ∃ (k : Int) (t : ByteArray) (a : Option Addr) (n c : Nat) (A : Option Addr) (m q : Nat),
 e = .returned (.tuple #[.agg #[.int .i64 k, .string t, .slice a n c, .slice A m q], .int .i64 (parE P)]) ∧ NdC (fun b => w.heap.size ≤ b ∧ b < w'.heap.size) w' (parD P) (.int .i64 k) (.string t) (.slice a n c) (.slice A m q) ∧ Below w.heap.size w w'
theorem par_ret {w W : World} {P : Option Nd} {d : Nd} {kk : Int} {t : ByteArray} {a : Option Addr} {nn c : Nat} {A : Option Addr} {m q : Nat} (hb : Below w.heap.size w W)
  (nd : NdC (fun b => w.heap.size < b ∧ b < W.heap.size) W d (.int .i64 kk) (.string t) (.slice a nn c) (.slice A m q)) {x : Int} (hx : x = parE P) (hd : d = parD P) :
  ParA w P (.returned (.tuple #[.agg #[.int .i64 kk, .string t, .slice a nn c, .slice A m q], .int .i64 x])) (p4 W w.heap.size (.int .i64 kk) (.string t) (.slice a nn c) (.slice A m q)) := by
 subst hx; subst hd
 exact ⟨_, _, _, _, _, _, _, _, rfl, NdC.keep (fun b hb => ⟨⟨Nat.le_of_lt hb.1, by rw [p4_size]; exact hb.2⟩, p4_oth b (Nat.ne_of_gt hb.1) _ _ _ _⟩) _ nd, below_p4 hb (Nat.le_refl _) _ _ _ _⟩
theorem RParse9_any (s : ByteArray) (w : World) (n : Nat) (hn : s.size = n) (hs : n ≤ 100000) (P : Option Nd) (hP : parP s.data.toList = P) :
  Calls Tryz.prog 68 #[.string s] w (ParA w P) := by
 have hlen : s.data.toList.length = n := (len_eq s).trans hn
 obtain ⟨k0, hk0⟩ : ∃ k0, 0 + blk (s.data.toList.drop 0) = k0 := ⟨_, rfl⟩
 have hkb : blk s.data.toList = k0 := by rw [← hk0, List.drop_zero]; omega
 have hk0n : k0 ≤ n := by have := blk_le s.data.toList; omega
 unfold parP at hP
 rw [hkb] at hP
 obtain ⟨V, hV⟩ : ∃ V, valP (s.data.toList.drop k0) = V := ⟨_, rfl⟩
 have HC := hid (fun W => Rvalue_at s n hn hs 0 (Nat.zero_le _) k0 hk0 W)
 have hvg : ∀ d m, V = some (d, m) → k0 + m ≤ n := fun d m h => by
  have := (val_got (hV.trans h)).1
  rw [List.length_drop, hlen] at this
  omega
 rw [hV] at HC hP
 have HBK := hid (fun (j : Nat) (hj : j ≤ n) R hR W => Rblanks_any s j W n hn (by omega) hj R hR)
 generalize hW0 : w.alloc (.cells #[.int .i64 0, .string ⟨#[]⟩, .slice none 0 0, .slice none 0 0] 26) = W0 at *
 have hsz : W0.heap.size = w.heap.size + 1 := by rw [← hW0]; simp
 have hb0 : Below w.heap.size w W0 := by rw [← hW0]; exact (Below.refl _ _).alloc (Nat.le_refl _) _
 have hr0 : Row4 W0 w.heap.size 26 (.int .i64 0) (.string ⟨#[]⟩) (.slice none 0 0) (.slice none 0 0) := by rw [← hW0]; exact Row4.make w _ _ _ _ _
 have HS := hid (And.intro hsz (And.intro hb0 hr0))
 clear hsz hb0 hr0 hk0 hkb hV
 go_enter Tryz.func68, Tryz.ntmps68
 go_wp2_with fail
 refine (HC.out _).mono ?_
 rintro e w1 ⟨v_k, v_s, v_a, v_n, v_c, v_A, v_m, v_q, rfl, hb, hnd⟩
 have hbv : Below W0.heap.size W0 (w1.alloc (.cells #[.int .i64 v_k, .string v_s, .slice v_a v_n v_c, .slice v_A v_m v_q] 26)) := hb.trans ((Below.refl _ _).alloc hb.size _)
 have hO := HS.out.1
 have HB : Hid (Below w.heap.size w (w1.alloc (.cells #[.int .i64 v_k, .string v_s, .slice v_a v_n v_c, .slice v_A v_m v_q] 26))) := hid (HS.out.2.1.trans (hbv.mono (by omega)))
 have HRB := hid (HS.out.2.2.below hbv (by omega))
 have HBV := hid (Row4.make w1 26 (.int .i64 v_k) (.string v_s) (.slice v_a v_n v_c) (.slice v_A v_m v_q))
 have HND : Hid (∀ p, V = some p → NdC (fun b => w.heap.size < b ∧ b < (w1.alloc (.cells #[.int .i64 v_k, .string v_s, .slice v_a v_n v_c, .slice v_A v_m v_q] 26)).heap.size) (w1.alloc (.cells #[.int .i64 v_k, .string v_s, .slice v_a v_n v_c, .slice v_A v_m v_q] 26)) p.1 (.int .i64 v_k) (.string v_s) (.slice v_a v_n v_c) (.slice v_A v_m v_q)) := hid fun p hp => NdC.keep (fun b hb => ⟨⟨by have := hb.1; omega, Nat.lt_of_lt_of_le hb.2 (by simp)⟩, ((Below.refl w1.heap.size w1).alloc (Nat.le_refl _) (.cells #[.int .i64 v_k, .string v_s, .slice v_a v_n v_c, .slice v_A v_m v_q] 26)).block b hb.2⟩) _ (hnd p hp)
 clear hb hnd hbv hW0 HC hO HS
 go_upto_region 2 with fail
 generalize w1.alloc (.cells #[.int .i64 v_k, .string v_s, .slice v_a v_n v_c, .slice v_A v_m v_q] 26) = W2 at *
 generalize w1.heap.size = gv at *
 cases V with
 | none =>
  have HP : Hid (P = none) := hid hP.symm
  rw [show valN k0 none = -1 from rfl]
  clear hP hlen hvg HND
  have HD := hid (par_ret (P := P) (kk := 0) (t := ⟨#[]⟩) (a := none) (nn := 0) (c := 0) (A := none) (m := 0) (q := 0) HB.out (nd_nul _ _) ((congrArg parE HP.out).symm) ((congrArg parD HP.out).symm))
  obtain ⟨r0, r1, r2, r3⟩ := HRB.out.cells
  obtain ⟨fr0, fr1, fr2, fr3⟩ := HRB.out.frozen
  obtain ⟨b0, b1, b2, b3⟩ := HBV.out.cells
  go_wp2
  refine bodyPost_ret (v := .tuple #[.agg #[.int .i64 0, .string ⟨#[]⟩, .slice none 0 0, .slice none 0 0], .int .i64 3]) (by simp [results, Tryz.results68, go_sem, r0, r1, r2, r3]) rfl HD.out
 | some p =>
  obtain ⟨d, m⟩ := p
  have hen := hvg d m rfl
  rw [show valN k0 (some (d, m)) = ((k0 + m : Nat) : Int) from rfl]
  obtain ⟨en, he⟩ : ∃ en, k0 + m = en := ⟨_, rfl⟩
  have hP2 : (if (s.data.toList.drop (k0 + m)).length = blk (s.data.toList.drop (k0 + m)) then some d else none) = P := hP
  rw [he] at hen hP2 ⊢
  obtain ⟨j2, hj2⟩ : ∃ j2, en + blk (s.data.toList.drop en) = j2 := ⟨_, rfl⟩
  have hj2n : j2 ≤ n := by
   have := blk_le (s.data.toList.drop en)
   rw [List.length_drop, hlen] at this
   omega
  have HBL := hid (HBK.out en hen j2 hj2)
  have hng : ¬ (en : Int) < 0 := by omega
  have hngd : decide ((en : Int) < 0) = false := decide_eq_false hng
  have HN2 := hid (HND.out (d, m) rfl)
  rw [List.length_drop, hlen] at hP2
  clear HND HBK hP hvg he
  by_cases hj : j2 < n
  ·have hjz : (j2 : Int) < (n : Int) := by omega
   have hjd : decide ((j2 : Int) < (n : Int)) = true := decide_eq_true hjz
   have HP : Hid (P = none) := hid (by rw [← hP2, if_neg (by omega)])
   clear hP2 hj2
   go_wp2_with fail
   refine (HBL.out _).mono ?_
   rintro e w' ⟨rfl, rfl⟩
   have HD := hid (par_ret (P := P) (kk := 0) (t := ⟨#[]⟩) (a := none) (nn := 0) (c := 0) (A := none) (m := 0) (q := 0) HB.out (nd_nul _ _) ((congrArg parE HP.out).symm) ((congrArg parD HP.out).symm))
   obtain ⟨r0, r1, r2, r3⟩ := HRB.out.cells
   obtain ⟨fr0, fr1, fr2, fr3⟩ := HRB.out.frozen
   obtain ⟨b0, b1, b2, b3⟩ := HBV.out.cells
   go_wp2
   refine bodyPost_ret (v := .tuple #[.agg #[.int .i64 0, .string ⟨#[]⟩, .slice none 0 0, .slice none 0 0], .int .i64 3]) (by simp [results, Tryz.results68, go_sem, r0, r1, r2, r3]) rfl HD.out
  ·have hjz : ¬ (j2 : Int) < (n : Int) := by omega
   have hjd : decide ((j2 : Int) < (n : Int)) = false := decide_eq_false hjz
   have HP : Hid (P = some d) := hid (by rw [← hP2, if_pos (by omega)])
   clear hP2 hj2
   cases hok : okT 2000 d with
   | false =>
    have HRI := hid (RRight_any d false hok _ _ _ _ W2 (NdC.keep (fun b hb => ⟨hb.2, rfl⟩) _ HN2.out))
    have HE : Hid (9 = parE P ∧ nul = parD P) := hid (HP.out ▸ par_no hok)
    clear hok
    go_wp2_with fail
    refine (HBL.out _).mono ?_
    rintro e w' ⟨rfl, rfl⟩
    obtain ⟨b0, b1, b2, b3⟩ := HBV.out.cells
    go_wp2_with fail
    refine HRI.out.mono ?_
    rintro e w3 ⟨rfl, hb3⟩
    have HB3 := hid (HB.out.trans (hb3.mono HB.out.size))
    replace HRB := hid (HRB.out.below hb3 HRB.out.lt)
    replace HBV := hid (HBV.out.below hb3 HBV.out.lt)
    clear hb3 b0 b1 b2 b3 HB HN2
    have HB := HB3
    have HD := hid (par_ret (P := P) (kk := 0) (t := ⟨#[]⟩) (a := none) (nn := 0) (c := 0) (A := none) (m := 0) (q := 0) HB.out (nd_nul _ _) (HE.out.1) (HE.out.2))
    obtain ⟨r0, r1, r2, r3⟩ := HRB.out.cells
    obtain ⟨fr0, fr1, fr2, fr3⟩ := HRB.out.frozen
    obtain ⟨b0, b1, b2, b3⟩ := HBV.out.cells
    go_wp2
    refine bodyPost_ret (v := .tuple #[.agg #[.int .i64 0, .string ⟨#[]⟩, .slice none 0 0, .slice none 0 0], .int .i64 9]) (by simp [results, Tryz.results68, go_sem, r0, r1, r2, r3]) rfl HD.out
   | true =>
    have HRI := hid (RRight_any d true hok _ _ _ _ W2 (NdC.keep (fun b hb => ⟨hb.2, rfl⟩) _ HN2.out))
    have HE : Hid (0 = parE P ∧ d = parD P) := hid (HP.out ▸ par_yes hok)
    clear hok
    go_wp2_with fail
    refine (HBL.out _).mono ?_
    rintro e w' ⟨rfl, rfl⟩
    obtain ⟨b0, b1, b2, b3⟩ := HBV.out.cells
    go_wp2_with fail
    refine HRI.out.mono ?_
    rintro e w3 ⟨rfl, hb3⟩
    have HB3 := hid (HB.out.trans (hb3.mono HB.out.size))
    have HN3 : Hid (NdC (fun b => w.heap.size < b ∧ b < w3.heap.size) w3 d (.int .i64 v_k) (.string v_s) (.slice v_a v_n v_c) (.slice v_A v_m v_q)) := hid (NdC.keep (fun b hb => ⟨⟨hb.1, Nat.lt_of_lt_of_le hb.2 hb3.size⟩, hb3.block b hb.2⟩) _ HN2.out)
    replace HRB := hid (HRB.out.below hb3 HRB.out.lt)
    replace HBV := hid (HBV.out.below hb3 HBV.out.lt)
    clear hb3 b0 b1 b2 b3 HB HN2
    have HB := HB3
    have HD := hid (par_ret (P := P) (kk := v_k) (t := v_s) (a := v_a) (nn := v_n) (c := v_c) (A := v_A) (m := v_m) (q := v_q) HB.out (HN3.out) (HE.out.1) (HE.out.2))
    obtain ⟨r0, r1, r2, r3⟩ := HRB.out.cells
    obtain ⟨fr0, fr1, fr2, fr3⟩ := HRB.out.frozen
    obtain ⟨b0, b1, b2, b3⟩ := HBV.out.cells
    go_wp2
    refine bodyPost_ret (v := .tuple #[.agg #[.int .i64 v_k, .string v_s, .slice v_a v_n v_c, .slice v_A v_m v_q], .int .i64 0]) (by simp [results, Tryz.results68, go_sem, r0, r1, r2, r3]) rfl HD.out
end
section
open Go.RowKit Go.Sort
open Nw N8 Q6 F9 B10 Go.ChangeShapes Go.WideShapes
theorem FIs.bad (S : Nat → Prop) (w : World) (k n : Nat) (E : Int) (R : Res) (hR : R = .bad n E) (kk : Int) (t : ByteArray) (c2 c3 : Value) (nx : Int) : FIs S w k R kk t c2 c3 nx (n : Int) E := by subst hR; exact ⟨rfl, rfl⟩
theorem FIs.ok {S : Nat → Prop} {w : World} {k m : Nat} {d : Nd} {R : Res} (hR : R = .ok d m) {kk : Int} {t : ByteArray} {c2 c3 : Value} {nx no : Int} (hx : nx = ((k + m : Nat) : Int)) (h : NdC S w d (.int .i64 kk) (.string t) c2 c3) : FIs S w k R kk t c2 c3 nx no 0 := by subst hR; exact ⟨rfl, hx, h⟩
theorem RVal_any (s : ByteArray) (hs : s.size ≤ 100000) (no k : Nat) (R : Res) (hR : valL s.data.toList no = R) (w : World) :
  Calls Tryz.prog 41 #[.string s, .int .i64 (no : Int), .int .i64 ((k : Int) + 1)] w (GotF k R w) := by
 have hlen := len_eq s
 have HWR := hid (fun (n e : Int) W => Rwrong_any n e W)
 have HSC := hid (fun (P : Option Nd) (hP : sclS false s.data.toList = P) W => RScalar_any s false W hs P hP)
 have HPA := hid (fun (P : Option Nd) (hP : parP s.data.toList = P) W => RParse9_any s W s.size rfl hs P hP)
 generalize hW0 : w.alloc (.cells #[.int .i64 0, .string ⟨#[]⟩, .slice none 0 0, .slice none 0 0, .int .i64 0, .int .i64 0, .int .i64 0] 50) = W0 at *
 have hsz : W0.heap.size = w.heap.size + 1 := by rw [← hW0]; simp
 have hb0 : Below w.heap.size w W0 := by rw [← hW0]; exact (Below.refl _ _).alloc (Nat.le_refl _) _
 have hr0 : Row7 W0 w.heap.size 50 (.int .i64 0) (.string ⟨#[]⟩) (.slice none 0 0) (.slice none 0 0) (.int .i64 0) (.int .i64 0) (.int .i64 0) := by rw [← hW0]; exact Row7.make w _ _ _ _ _ _ _ _
 have HS := hid (And.intro hsz (And.intro hb0 hr0))
 clear hsz hb0 hr0
 by_cases h0 : s.data.toList = []
 ·obtain rfl := bytes_of (l := #[]) h0
  unfold valL at hR
  rw [if_neg (by decide)] at hR
  have hR : (match sclS false [] with | none => Res.bad no 3 | some d => Res.ok d 1) = R := hR
  replace HSC : Hid (∀ (P : Option Nd) (hP : sclS false [] = P) (W : World), Calls Tryz.prog 69 #[.string ⟨#[]⟩, .bool false] W fun e w' => e = .returned (.tuple #[.agg #[.int .i64 (scK P), .string (scT P), .slice none 0 0, .slice none 0 0], .bool P.isSome]) ∧ Below W.heap.size W w') := HSC
  obtain ⟨P, hP⟩ : ∃ P, sclS false [] = P := ⟨_, rfl⟩
  rw [hP] at hR
  replace HSC := hid (HSC.out P hP)
  have HNS := hid (fun (S : Nat → Prop) (W : World) => hP ▸ nd_scl (row := false) (l := []) S W)
  obtain ⟨kS, hkS⟩ : ∃ x, scK P = x := ⟨_, rfl⟩
  obtain ⟨tS, htS⟩ : ∃ x, scT P = x := ⟨_, rfl⟩
  rw [hkS, htS] at HSC HNS
  clear hkS htS hP HPA hlen h0 hs
  cases P with
  | none =>
   have HX : Hid (R = .bad no 3) := hid hR.symm
   have HSD : Hid (∀ W, Calls Tryz.prog 69 #[.string ⟨#[]⟩, .bool false] W fun e w' => e = .returned (.tuple #[.agg #[.int .i64 kS, .string tS, .slice none 0 0, .slice none 0 0], .bool false]) ∧ Below W.heap.size W w') := HSC
   clear hR HSC
   go_enter Tryz.func41, Tryz.ntmps41
   go_wp2_with fail
   refine (HSD.out _).mono ?_
   rintro e w1 ⟨rfl, hb⟩
   have HB : Hid (Below W0.heap.size W0 (w1.alloc (.cells #[.int .i64 kS, .string tS, .slice none 0 0, .slice none 0 0] 26))) := hid (hb.trans ((Below.refl _ _).alloc hb.size _))
   have HBV := hid (Row4.make w1 26 (.int .i64 kS) (.string tS) (.slice none 0 0) (.slice none 0 0))
   clear hb hW0 HSD
   go_upto_region 7 with fail
   generalize w1.alloc (.cells #[.int .i64 kS, .string tS, .slice none 0 0, .slice none 0 0] 26) = W2 at *
   generalize w1.heap.size = gv at *
   clear HBV HNS
   go_wp2_with fail
   refine (HWR.out _ _ _).mono ?_
   rintro e w3 ⟨rfl, hb3⟩
   have HB3 := hid (HB.out.trans (hb3.mono HB.out.size))
   clear hb3
   have HRB := hid (HS.out.2.2.below HB3.out (by have := HS.out.1; omega))
   have HD := hid (fnd_ret (k := k) (R := R) HS.out.1 HS.out.2.1 HB3.out (FIs.bad _ _ k no 3 R HX.out 0 ⟨#[]⟩ (.slice none 0 0) (.slice none 0 0) 0))
   obtain ⟨r0, r1, r2, r3, r4, r5, r6⟩ := HRB.out.cells
   obtain ⟨fr0, fr1, fr2, fr3, fr4, fr5, fr6⟩ := HRB.out.frozen
   go_wp2
   refine bodyPost_ret (v := .agg #[.int .i64 0, .string ⟨#[]⟩, .slice none 0 0, .slice none 0 0, .int .i64 0, .int .i64 (no : Int), .int .i64 3]) (by simp [results, Tryz.results41, go_sem, r0, r1, r2, r3, r4, r5, r6]) rfl HD.out
  | some d =>
   have HX : Hid (R = .ok d 1) := hid hR.symm
   have HSD : Hid (∀ W, Calls Tryz.prog 69 #[.string ⟨#[]⟩, .bool false] W fun e w' => e = .returned (.tuple #[.agg #[.int .i64 kS, .string tS, .slice none 0 0, .slice none 0 0], .bool true]) ∧ Below W.heap.size W w') := HSC
   clear hR HSC
   go_enter Tryz.func41, Tryz.ntmps41
   go_wp2_with fail
   refine (HSD.out _).mono ?_
   rintro e w1 ⟨rfl, hb⟩
   have HB : Hid (Below W0.heap.size W0 (w1.alloc (.cells #[.int .i64 kS, .string tS, .slice none 0 0, .slice none 0 0] 26))) := hid (hb.trans ((Below.refl _ _).alloc hb.size _))
   have HBV := hid (Row4.make w1 26 (.int .i64 kS) (.string tS) (.slice none 0 0) (.slice none 0 0))
   clear hb hW0 HSD
   go_upto_region 7 with fail
   generalize w1.alloc (.cells #[.int .i64 kS, .string tS, .slice none 0 0, .slice none 0 0] 26) = W2 at *
   generalize w1.heap.size = gv at *
   have HRB := hid (HS.out.2.2.below HB.out (by have := HS.out.1; omega))
   obtain ⟨b0, b1, b2, b3⟩ := HBV.out.cells
   have HD := hid (fnd_ret (k := k) (R := R) (no := 0) HS.out.1 HS.out.2.1 HB.out (FIs.ok HX.out (nx := (k : Int) + 1) rfl (HNS.out _ _)))
   obtain ⟨r0, r1, r2, r3, r4, r5, r6⟩ := HRB.out.cells
   obtain ⟨fr0, fr1, fr2, fr3, fr4, fr5, fr6⟩ := HRB.out.frozen
   go_wp2
   refine bodyPost_ret (v := .agg #[.int .i64 kS, .string tS, .slice none 0 0, .slice none 0 0, .int .i64 ((k : Int) + 1), .int .i64 0, .int .i64 0]) (by simp [results, Tryz.results41, go_sem, r0, r1, r2, r3, r4, r5, r6]) rfl HD.out
 have hp : 0 < s.size := by
  have := List.length_pos_iff.2 h0
  omega
 obtain ⟨n, hn⟩ : ∃ n, s.size = n := ⟨_, rfl⟩
 have hpz : (0 : Int) < (n : Int) := by omega
 obtain ⟨c, hc⟩ : ∃ c, s[0]'hp = c := ⟨_, rfl⟩
 have hhead : s.data.toList.headD 0 = c := by rw [headD_getD, getd s 0 hp, hc]
 unfold valL at hR
 rw [hhead] at hR
 cases h91 : isC 91 c with
 | true =>
  have m91 := (isC_beq 91 c 91 rfl).trans h91
  rw [if_pos (by rw [show decide (c = 91) = true from h91]; rfl)] at hR
  clear h91 h0
  obtain ⟨P, hP⟩ : ∃ P, parP s.data.toList = P := ⟨_, rfl⟩
  rw [hP] at hR
  replace HPA := hid (HPA.out P hP)
  obtain ⟨E, hE⟩ : ∃ E, parE P = E := ⟨_, rfl⟩
  rw [hE] at hR
  clear hP HSC hlen hhead
  by_cases hE0 : E = 0
  ·
   rw [if_pos hE0] at hR
   have HX : Hid (R = .ok (parD P) 1) := hid hR.symm
   subst hE0
   have HE := hid hE
   clear hR hE
   go_enter Tryz.func41, Tryz.ntmps41
   go_wp2_with fail
   refine (HPA.out _).mono ?_
   rintro e w1 ⟨v_k, v_s, v_a, v_n, v_c, v_A, v_m, v_q, rfl, hnd, hb⟩
   rw [HE.out]
   have HB : Hid (Below W0.heap.size W0 (w1.alloc (.cells #[.int .i64 v_k, .string v_s, .slice v_a v_n v_c, .slice v_A v_m v_q] 26))) := hid (hb.trans ((Below.refl _ _).alloc hb.size _))
   have HBV := hid (Row4.make w1 26 (.int .i64 v_k) (.string v_s) (.slice v_a v_n v_c) (.slice v_A v_m v_q))
   have HND : Hid (NdC (fun b => W0.heap.size ≤ b ∧ b < (w1.alloc (.cells #[.int .i64 v_k, .string v_s, .slice v_a v_n v_c, .slice v_A v_m v_q] 26)).heap.size) (w1.alloc (.cells #[.int .i64 v_k, .string v_s, .slice v_a v_n v_c, .slice v_A v_m v_q] 26)) (parD P) (.int .i64 v_k) (.string v_s) (.slice v_a v_n v_c) (.slice v_A v_m v_q)) := hid (NdC.keep (fun b hb => ⟨⟨hb.1, Nat.lt_of_lt_of_le hb.2 (by simp)⟩, ((Below.refl w1.heap.size w1).alloc (Nat.le_refl _) (.cells #[.int .i64 v_k, .string v_s, .slice v_a v_n v_c, .slice v_A v_m v_q] 26)).block b hb.2⟩) _ hnd)
   clear hb hnd hW0 HPA
   go_upto_region 3 with fail
   generalize w1.alloc (.cells #[.int .i64 v_k, .string v_s, .slice v_a v_n v_c, .slice v_A v_m v_q] 26) = W2 at *
   generalize w1.heap.size = gv at *
   have HRB := hid (HS.out.2.2.below HB.out (by have := HS.out.1; omega))
   obtain ⟨b0, b1, b2, b3⟩ := HBV.out.cells
   have HD := hid (fnd_ret (k := k) (R := R) (no := 0) HS.out.1 HS.out.2.1 HB.out (FIs.ok HX.out (nx := (k : Int) + 1) rfl HND.out))
   obtain ⟨r0, r1, r2, r3, r4, r5, r6⟩ := HRB.out.cells
   obtain ⟨fr0, fr1, fr2, fr3, fr4, fr5, fr6⟩ := HRB.out.frozen
   go_wp2
   refine bodyPost_ret (v := .agg #[.int .i64 v_k, .string v_s, .slice v_a v_n v_c, .slice v_A v_m v_q, .int .i64 ((k : Int) + 1), .int .i64 0, .int .i64 0]) (by simp [results, Tryz.results41, go_sem, r0, r1, r2, r3, r4, r5, r6]) rfl HD.out
  ·
   rw [if_neg hE0] at hR
   have HX : Hid (R = .bad no E) := hid hR.symm
   have e1 : (E == 0) = false := beq_eq_false_iff_ne.2 hE0
   have e2 : (E != 0) = true := by rw [bne_iff_ne]; exact hE0
   have HE0 := hid hE0
   clear hE0
   have HE := hid hE
   clear hR hE
   go_enter Tryz.func41, Tryz.ntmps41
   go_wp2_with fail
   refine (HPA.out _).mono ?_
   rintro e w1 ⟨v_k, v_s, v_a, v_n, v_c, v_A, v_m, v_q, rfl, hnd, hb⟩
   rw [HE.out]
   have HB : Hid (Below W0.heap.size W0 (w1.alloc (.cells #[.int .i64 v_k, .string v_s, .slice v_a v_n v_c, .slice v_A v_m v_q] 26))) := hid (hb.trans ((Below.refl _ _).alloc hb.size _))
   have HBV := hid (Row4.make w1 26 (.int .i64 v_k) (.string v_s) (.slice v_a v_n v_c) (.slice v_A v_m v_q))
   clear hb hnd hW0 HPA
   go_upto_region 3 with fail
   generalize w1.alloc (.cells #[.int .i64 v_k, .string v_s, .slice v_a v_n v_c, .slice v_A v_m v_q] 26) = W2 at *
   generalize w1.heap.size = gv at *
   clear HBV
   go_wp2_with fail
   refine (HWR.out _ _ _).mono ?_
   rintro e w3 ⟨rfl, hb3⟩
   have HB3 := hid (HB.out.trans (hb3.mono HB.out.size))
   clear hb3
   have HRB := hid (HS.out.2.2.below HB3.out (by have := HS.out.1; omega))
   have HD := hid (fnd_ret (k := k) (R := R) HS.out.1 HS.out.2.1 HB3.out (FIs.bad _ _ k no E R HX.out 0 ⟨#[]⟩ (.slice none 0 0) (.slice none 0 0) 0))
   obtain ⟨r0, r1, r2, r3, r4, r5, r6⟩ := HRB.out.cells
   obtain ⟨fr0, fr1, fr2, fr3, fr4, fr5, fr6⟩ := HRB.out.frozen
   go_wp2
   refine bodyPost_ret (v := .agg #[.int .i64 0, .string ⟨#[]⟩, .slice none 0 0, .slice none 0 0, .int .i64 0, .int .i64 (no : Int), .int .i64 E]) (by simp [results, Tryz.results41, go_sem, r0, r1, r2, r3, r4, r5, r6]) rfl HD.out
 | false =>
 have m91 := (isC_beq 91 c 91 rfl).trans h91
 cases h123 : isC 123 c with
 | true =>
  have m123 := (isC_beq 123 c 123 rfl).trans h123
  rw [if_pos (by rw [show decide (c = 123) = true from h123, Bool.or_true])] at hR
  clear h91 h123 h0
  obtain ⟨P, hP⟩ : ∃ P, parP s.data.toList = P := ⟨_, rfl⟩
  rw [hP] at hR
  replace HPA := hid (HPA.out P hP)
  obtain ⟨E, hE⟩ : ∃ E, parE P = E := ⟨_, rfl⟩
  rw [hE] at hR
  clear hP HSC hlen hhead
  by_cases hE0 : E = 0
  ·
   rw [if_pos hE0] at hR
   have HX : Hid (R = .ok (parD P) 1) := hid hR.symm
   subst hE0
   have HE := hid hE
   clear hR hE
   go_enter Tryz.func41, Tryz.ntmps41
   go_wp2_with fail
   refine (HPA.out _).mono ?_
   rintro e w1 ⟨v_k, v_s, v_a, v_n, v_c, v_A, v_m, v_q, rfl, hnd, hb⟩
   rw [HE.out]
   have HB : Hid (Below W0.heap.size W0 (w1.alloc (.cells #[.int .i64 v_k, .string v_s, .slice v_a v_n v_c, .slice v_A v_m v_q] 26))) := hid (hb.trans ((Below.refl _ _).alloc hb.size _))
   have HBV := hid (Row4.make w1 26 (.int .i64 v_k) (.string v_s) (.slice v_a v_n v_c) (.slice v_A v_m v_q))
   have HND : Hid (NdC (fun b => W0.heap.size ≤ b ∧ b < (w1.alloc (.cells #[.int .i64 v_k, .string v_s, .slice v_a v_n v_c, .slice v_A v_m v_q] 26)).heap.size) (w1.alloc (.cells #[.int .i64 v_k, .string v_s, .slice v_a v_n v_c, .slice v_A v_m v_q] 26)) (parD P) (.int .i64 v_k) (.string v_s) (.slice v_a v_n v_c) (.slice v_A v_m v_q)) := hid (NdC.keep (fun b hb => ⟨⟨hb.1, Nat.lt_of_lt_of_le hb.2 (by simp)⟩, ((Below.refl w1.heap.size w1).alloc (Nat.le_refl _) (.cells #[.int .i64 v_k, .string v_s, .slice v_a v_n v_c, .slice v_A v_m v_q] 26)).block b hb.2⟩) _ hnd)
   clear hb hnd hW0 HPA
   go_upto_region 3 with fail
   generalize w1.alloc (.cells #[.int .i64 v_k, .string v_s, .slice v_a v_n v_c, .slice v_A v_m v_q] 26) = W2 at *
   generalize w1.heap.size = gv at *
   have HRB := hid (HS.out.2.2.below HB.out (by have := HS.out.1; omega))
   obtain ⟨b0, b1, b2, b3⟩ := HBV.out.cells
   have HD := hid (fnd_ret (k := k) (R := R) (no := 0) HS.out.1 HS.out.2.1 HB.out (FIs.ok HX.out (nx := (k : Int) + 1) rfl HND.out))
   obtain ⟨r0, r1, r2, r3, r4, r5, r6⟩ := HRB.out.cells
   obtain ⟨fr0, fr1, fr2, fr3, fr4, fr5, fr6⟩ := HRB.out.frozen
   go_wp2
   refine bodyPost_ret (v := .agg #[.int .i64 v_k, .string v_s, .slice v_a v_n v_c, .slice v_A v_m v_q, .int .i64 ((k : Int) + 1), .int .i64 0, .int .i64 0]) (by simp [results, Tryz.results41, go_sem, r0, r1, r2, r3, r4, r5, r6]) rfl HD.out
  ·
   rw [if_neg hE0] at hR
   have HX : Hid (R = .bad no E) := hid hR.symm
   have e1 : (E == 0) = false := beq_eq_false_iff_ne.2 hE0
   have e2 : (E != 0) = true := by rw [bne_iff_ne]; exact hE0
   have HE0 := hid hE0
   clear hE0
   have HE := hid hE
   clear hR hE
   go_enter Tryz.func41, Tryz.ntmps41
   go_wp2_with fail
   refine (HPA.out _).mono ?_
   rintro e w1 ⟨v_k, v_s, v_a, v_n, v_c, v_A, v_m, v_q, rfl, hnd, hb⟩
   rw [HE.out]
   have HB : Hid (Below W0.heap.size W0 (w1.alloc (.cells #[.int .i64 v_k, .string v_s, .slice v_a v_n v_c, .slice v_A v_m v_q] 26))) := hid (hb.trans ((Below.refl _ _).alloc hb.size _))
   have HBV := hid (Row4.make w1 26 (.int .i64 v_k) (.string v_s) (.slice v_a v_n v_c) (.slice v_A v_m v_q))
   clear hb hnd hW0 HPA
   go_upto_region 3 with fail
   generalize w1.alloc (.cells #[.int .i64 v_k, .string v_s, .slice v_a v_n v_c, .slice v_A v_m v_q] 26) = W2 at *
   generalize w1.heap.size = gv at *
   clear HBV
   go_wp2_with fail
   refine (HWR.out _ _ _).mono ?_
   rintro e w3 ⟨rfl, hb3⟩
   have HB3 := hid (HB.out.trans (hb3.mono HB.out.size))
   clear hb3
   have HRB := hid (HS.out.2.2.below HB3.out (by have := HS.out.1; omega))
   have HD := hid (fnd_ret (k := k) (R := R) HS.out.1 HS.out.2.1 HB3.out (FIs.bad _ _ k no E R HX.out 0 ⟨#[]⟩ (.slice none 0 0) (.slice none 0 0) 0))
   obtain ⟨r0, r1, r2, r3, r4, r5, r6⟩ := HRB.out.cells
   obtain ⟨fr0, fr1, fr2, fr3, fr4, fr5, fr6⟩ := HRB.out.frozen
   go_wp2
   refine bodyPost_ret (v := .agg #[.int .i64 0, .string ⟨#[]⟩, .slice none 0 0, .slice none 0 0, .int .i64 0, .int .i64 (no : Int), .int .i64 E]) (by simp [results, Tryz.results41, go_sem, r0, r1, r2, r3, r4, r5, r6]) rfl HD.out
 | false =>
  have m123 := (isC_beq 123 c 123 rfl).trans h123
  rw [if_neg (by rw [show decide (c = 91) = false from h91, show decide (c = 123) = false from h123]; decide)] at hR
  have hR : (match sclS false s.data.toList with | none => Res.bad no 3 | some d => Res.ok d 1) = R := hR
  clear h91 h123 h0
  obtain ⟨P, hP⟩ : ∃ P, sclS false s.data.toList = P := ⟨_, rfl⟩
  rw [hP] at hR
  replace HSC := hid (HSC.out P hP)
  have HNS := hid (fun (S : Nat → Prop) (W : World) => hP ▸ nd_scl (row := false) (l := s.data.toList) S W)
  obtain ⟨kS, hkS⟩ : ∃ x, scK P = x := ⟨_, rfl⟩
  obtain ⟨tS, htS⟩ : ∃ x, scT P = x := ⟨_, rfl⟩
  rw [hkS, htS] at HSC HNS
  clear hkS htS hP HPA hlen hhead
  cases P with
  | none =>
   have HX : Hid (R = .bad no 3) := hid hR.symm
   have HSD : Hid (∀ W, Calls Tryz.prog 69 #[.string s, .bool false] W fun e w' => e = .returned (.tuple #[.agg #[.int .i64 kS, .string tS, .slice none 0 0, .slice none 0 0], .bool false]) ∧ Below W.heap.size W w') := HSC
   clear hR HSC
   go_enter Tryz.func41, Tryz.ntmps41
   go_wp2_with fail
   refine (HSD.out _).mono ?_
   rintro e w1 ⟨rfl, hb⟩
   have HB : Hid (Below W0.heap.size W0 (w1.alloc (.cells #[.int .i64 kS, .string tS, .slice none 0 0, .slice none 0 0] 26))) := hid (hb.trans ((Below.refl _ _).alloc hb.size _))
   have HBV := hid (Row4.make w1 26 (.int .i64 kS) (.string tS) (.slice none 0 0) (.slice none 0 0))
   clear hb hW0 HSD
   go_upto_region 7 with fail
   generalize w1.alloc (.cells #[.int .i64 kS, .string tS, .slice none 0 0, .slice none 0 0] 26) = W2 at *
   generalize w1.heap.size = gv at *
   clear HBV HNS
   go_wp2_with fail
   refine (HWR.out _ _ _).mono ?_
   rintro e w3 ⟨rfl, hb3⟩
   have HB3 := hid (HB.out.trans (hb3.mono HB.out.size))
   clear hb3
   have HRB := hid (HS.out.2.2.below HB3.out (by have := HS.out.1; omega))
   have HD := hid (fnd_ret (k := k) (R := R) HS.out.1 HS.out.2.1 HB3.out (FIs.bad _ _ k no 3 R HX.out 0 ⟨#[]⟩ (.slice none 0 0) (.slice none 0 0) 0))
   obtain ⟨r0, r1, r2, r3, r4, r5, r6⟩ := HRB.out.cells
   obtain ⟨fr0, fr1, fr2, fr3, fr4, fr5, fr6⟩ := HRB.out.frozen
   go_wp2
   refine bodyPost_ret (v := .agg #[.int .i64 0, .string ⟨#[]⟩, .slice none 0 0, .slice none 0 0, .int .i64 0, .int .i64 (no : Int), .int .i64 3]) (by simp [results, Tryz.results41, go_sem, r0, r1, r2, r3, r4, r5, r6]) rfl HD.out
  | some d =>
   have HX : Hid (R = .ok d 1) := hid hR.symm
   have HSD : Hid (∀ W, Calls Tryz.prog 69 #[.string s, .bool false] W fun e w' => e = .returned (.tuple #[.agg #[.int .i64 kS, .string tS, .slice none 0 0, .slice none 0 0], .bool true]) ∧ Below W.heap.size W w') := HSC
   clear hR HSC
   go_enter Tryz.func41, Tryz.ntmps41
   go_wp2_with fail
   refine (HSD.out _).mono ?_
   rintro e w1 ⟨rfl, hb⟩
   have HB : Hid (Below W0.heap.size W0 (w1.alloc (.cells #[.int .i64 kS, .string tS, .slice none 0 0, .slice none 0 0] 26))) := hid (hb.trans ((Below.refl _ _).alloc hb.size _))
   have HBV := hid (Row4.make w1 26 (.int .i64 kS) (.string tS) (.slice none 0 0) (.slice none 0 0))
   clear hb hW0 HSD
   go_upto_region 7 with fail
   generalize w1.alloc (.cells #[.int .i64 kS, .string tS, .slice none 0 0, .slice none 0 0] 26) = W2 at *
   generalize w1.heap.size = gv at *
   have HRB := hid (HS.out.2.2.below HB.out (by have := HS.out.1; omega))
   obtain ⟨b0, b1, b2, b3⟩ := HBV.out.cells
   have HD := hid (fnd_ret (k := k) (R := R) (no := 0) HS.out.1 HS.out.2.1 HB.out (FIs.ok HX.out (nx := (k : Int) + 1) rfl (HNS.out _ _)))
   obtain ⟨r0, r1, r2, r3, r4, r5, r6⟩ := HRB.out.cells
   obtain ⟨fr0, fr1, fr2, fr3, fr4, fr5, fr6⟩ := HRB.out.frozen
   go_wp2
   refine bodyPost_ret (v := .agg #[.int .i64 kS, .string tS, .slice none 0 0, .slice none 0 0, .int .i64 ((k : Int) + 1), .int .i64 0, .int .i64 0]) (by simp [results, Tryz.results41, go_sem, r0, r1, r2, r3, r4, r5, r6]) rfl HD.out
end
end Go.Proofs.YtecglpocmhkkiaaGreatDoor
