/- RefSgl, QuoScan2, RefScan, LinBehind -/
import Derived.Test.YtecglpocmhkkiaaGreatDoorPT13
import Derived.Test.YtecglpocmhkkiaaGreatDoorPT14
import Derived.Test.YtecglpocmhkkiaaGreatDoorPT8
set_option linter.unusedVariables false
set_option linter.unusedSimpArgs false
set_option maxRecDepth 100000
set_option maxHeartbeats 16000000
open Go.Lib (hid)
namespace Go.Proofs.YtecglpocmhkkiaaGreatDoor
section
open Go.RowKit Go.Sort
open Q6
theorem Rsingle_any (s : ByteArray) (k0 : Nat) (w : World) (hs : s.size ≤ 100000) (hk0 : k0 ≤ s.size) (q : ByteArray) (x : Int) (y : Bool)
  (hq : outV (atS s.data.toList [] k0) = q.data.toList) (hx : outN (atS s.data.toList [] k0) = x) (hy : outB (atS s.data.toList [] k0) = y) :
  Calls Tryz.prog 48 #[.string s, .int .i64 (k0 : Int)] w fun e w' => e = .returned (.tuple #[.string q, .int .i64 x, .bool y]) ∧ Below w.heap.size w w' := by
 obtain ⟨i0, hi, hz0, hz1, hz2⟩ := infoB
 have HOUT : Hid (outV (atS s.data.toList [] k0) = q.data.toList ∧ outN (atS s.data.toList [] k0) = x ∧ outB (atS s.data.toList [] k0) = y) := hid ⟨hq, hx, hy⟩
 clear hq hx hy
 obtain ⟨R, hR⟩ : ∃ R, atS s.data.toList [] k0 = R := ⟨_, rfl⟩
 rw [hR] at HOUT
 have HR0 := hid hR
 clear hR
 have HLEN := hid (len_eq s)
 have HO1 := hid (own_nil w 5)
 have HB1 := hid ((Below.refl _ w).alloc (Nat.le_refl _) (.cells #[] 5))
 obtain ⟨n, hn⟩ : ∃ n, s.size = n := ⟨_, rfl⟩
 have hsn : n ≤ 100000 := by omega
 go_enter Tryz.func48, Tryz.ntmps48
 go_wp2
 go_loopw [1, 7] (fun si sv wr => ∃ (k : Nat) (acc : List UInt8), k ≤ n ∧ acc.length ≤ k ∧ si = .int .i64 (k : Int) ∧ wr.ownsRow w.heap.size 5 1 sv acc.length (acc.map encB) ∧ Below w.heap.size w wr ∧ Hid (atS s.data.toList acc k = R)) (fun si _ _ => n - (intOf si).toNat)
 case atStart => exact ⟨k0, [], by omega, Nat.zero_le _, rfl, HO1.out, HB1.out, HR0⟩
 case round =>
  clear HO1 HR0 HB1
  obtain ⟨k, acc, hk, hak, rfl, hown, hbel, HR⟩ := hrel
  have HO := hid hown
  have HB := hid hbel
  clear hbel
  by_cases hlt : k < n
  ·have hks : k < s.size := by omega
   have hkl : k < s.data.toList.length := by rw [HLEN.out]; exact hks
   have hskz : (k : Int) < (n : Int) := by omega
   have hg : s.data.toList.getD k 0 = s[k]'hks := getd s k hks
   obtain ⟨c, hc⟩ : ∃ c, s[k]'hks = c := ⟨_, rfl⟩
   rw [hc] at hg
   have HG := hid hg
   have HKL := hid hkl
   clear hg hkl
   rcases Bool.eq_false_or_eq_true (good c) with hgd | hgd
   ·have HP := hid hgd
    clear hgd
    by_cases h39 : c = 39
    ·have m39 : ((c.toNat : Int) == 39) = true := by rw [isC_beq 39 c 39 rfl, isC_iff.2 h39]
     by_cases h2 : k + 1 < s.data.toList.length ∧ s.data.toList.getD (k + 1) 0 = 39
     ·have hkn1 : k + 1 < n := by have := h2.1; rw [HLEN.out] at this; omega
      have hks1 : k + 1 < s.size := by omega
      have hk1z : (k : Int) + 1 < (n : Int) := by omega
      have hg1 : s.data.toList.getD (k + 1) 0 = s[k + 1]'hks1 := getd s (k + 1) hks1
      have hc1 : s[k + 1]'hks1 = 39 := by rw [← hg1]; exact h2.2
      have HN := hid ((atS_two (acc := acc) h2.1 (HG.out.trans h39) h2.2).symm.trans HR.out)
      have hk1z' : ¬ (n : Int) ≤ (k : Int) + 1 := by omega
      clear h2 h39 hg1
      obtain ⟨YS, hYS⟩ : ∃ YS, YS = acc.map encB := ⟨_, rfl⟩
      rw [← hYS] at hown
      have HYS := hid hYS
      clear hYS
      obtain ⟨al, hal⟩ : ∃ al, acc.length = al := ⟨_, rfl⟩
      have hal2 : al ≤ n := by omega
      rw [hal] at hown
      have HAL := hid hal
      have HAK : Hid (al ≤ k) := hid (by omega)
      clear hal hak
      go_wp2_with (first
       | (go_at_call 50; refine (Good_q c true _ HP.out).mono ?_; rintro e w' ⟨rfl, rfl⟩)
       | (at_builtin; refine wpList_append_own _ rfl _ _ 58 rfl w.heap.size 5 i0 _ 1 1 Tryz.underlying58 hi hz0 hz1 hz2 rfl (by decide) _ _ _ rfl (hown.alloc _) ⟨wr.heap.size, 0, none⟩ 1 1 [.int .u8 39] rfl rfl ?c1 ?c2 ?c3 ?c4 ?c5 ?_))
      case c1 => exact cells_new wr _ _
      case c2 => exact one_one _
      case c3 => unfold maxLen; omega
      case c4 => omega
      case c5 => have := HB.out.size; simp; omega
      ·intro v' w2 hown' hgrow hnil
       have HW2 := hid hown'
       have HG2 := hid hgrow
       have HOy := hid hown
       clear hown' hgrow hown hnil
       go_wp2
       go_roundw
       case measure => simp [intOf]; omega
       case rel =>
        refine ⟨k + 2, acc ++ [39], by omega, by rw [List.length_append, HAL.out]; show al + 1 ≤ _; have := HAK.out; omega, by go_num, ?_, ?_, HN⟩
        ·rw [map_snoc, List.length_append, HAL.out, ← HYS.out]; exact HW2.out
        ·refine (HB.out.alloc HB.out.size _).grown HG2.out (by have := HB.out.size; simp; omega) ?_
         intro q hq
         exact (HOy.out.lt q hq).1
     ·have HE := hid (HR.out.symm.trans (atS_end (acc := acc) HKL.out (HG.out.trans h39) h2))
      clear h39
      by_cases hk1 : k + 1 < n
      ·have hks1 : k + 1 < s.size := by omega
       have hk1z : (k : Int) + 1 < (n : Int) := by omega
       have hk1z' : ¬ (n : Int) ≤ (k : Int) + 1 := by omega
       obtain ⟨d, hd⟩ : ∃ d, s[k + 1]'hks1 = d := ⟨_, rfl⟩
       have hg1 : s.data.toList.getD (k + 1) 0 = d := (getd s (k + 1) hks1).trans hd
       have n39 : ((d.toNat : Int) != 39) = true := by rw [isC_bne 39 d 39 rfl, Bool.eq_false_iff.2 (fun e => h2 ⟨by rw [HLEN.out]; exact hks1, hg1.trans (isC_iff.1 e)⟩)]; rfl
       clear h2 hg1
       rcases own_cases hown with ⟨hv, hA⟩ | ⟨g, cap, hv2, hcv⟩
       ·subst hv
        have HA := hid hA
        clear hown hA
        have hcv := conv_nil wr
        go_wp2_with (go_at_call 50; refine (Good_q c true _ HP.out).mono ?_; rintro e w' ⟨rfl, rfl⟩)
        go_ret3
        exact ⟨ret_sib (bytes_ext (by rw [← HOUT.out.1, HE.out, HA.out]; rfl)) (by rw [← HOUT.out.2.1, HE.out]; rfl) (by rw [← HOUT.out.2.2, HE.out]; rfl), HB.out⟩
       ·subst hv2
        clear hown
        obtain ⟨A, hA⟩ : ∃ A : ByteArray, A = ⟨acc.toArray⟩ := ⟨_, rfl⟩
        rw [← hA] at hcv
        have HA := hid hA
        clear hA
        go_wp2_with (go_at_call 50; refine (Good_q c true _ HP.out).mono ?_; rintro e w' ⟨rfl, rfl⟩)
        go_ret3
        exact ⟨ret_sib (by rw [HA.out]; exact bytes_ext (by rw [← HOUT.out.1, HE.out]; rfl)) (by rw [← HOUT.out.2.1, HE.out]; rfl) (by rw [← HOUT.out.2.2, HE.out]; rfl), HB.out⟩
      ·have hk1z : (n : Int) ≤ (k : Int) + 1 := by omega
       clear h2
       rcases own_cases hown with ⟨hv, hA⟩ | ⟨g, cap, hv2, hcv⟩
       ·subst hv
        have HA := hid hA
        clear hown hA
        have hcv := conv_nil wr
        go_wp2_with (go_at_call 50; refine (Good_q c true _ HP.out).mono ?_; rintro e w' ⟨rfl, rfl⟩)
        go_ret3
        exact ⟨ret_sib (bytes_ext (by rw [← HOUT.out.1, HE.out, HA.out]; rfl)) (by rw [← HOUT.out.2.1, HE.out]; rfl) (by rw [← HOUT.out.2.2, HE.out]; rfl), HB.out⟩
       ·subst hv2
        clear hown
        obtain ⟨A, hA⟩ : ∃ A : ByteArray, A = ⟨acc.toArray⟩ := ⟨_, rfl⟩
        rw [← hA] at hcv
        have HA := hid hA
        clear hA
        go_wp2_with (go_at_call 50; refine (Good_q c true _ HP.out).mono ?_; rintro e w' ⟨rfl, rfl⟩)
        go_ret3
        exact ⟨ret_sib (by rw [HA.out]; exact bytes_ext (by rw [← HOUT.out.1, HE.out]; rfl)) (by rw [← HOUT.out.2.1, HE.out]; rfl) (by rw [← HOUT.out.2.2, HE.out]; rfl), HB.out⟩
    ·have m39 : ((c.toNat : Int) == 39) = false := by rw [isC_beq 39 c 39 rfl]; exact Bool.eq_false_iff.2 (fun e => h39 (isC_iff.1 e))
     have HN := hid ((atS_next (acc := acc) HKL.out (by rw [HG.out]; exact HP.out) (by rw [HG.out]; exact h39)).symm.trans HR.out)
     rw [HG.out] at HN
     clear h39
     obtain ⟨YS, hYS⟩ : ∃ YS, YS = acc.map encB := ⟨_, rfl⟩
     rw [← hYS] at hown
     have HYS := hid hYS
     clear hYS
     obtain ⟨al, hal⟩ : ∃ al, acc.length = al := ⟨_, rfl⟩
     have hal2 : al ≤ n := by omega
     rw [hal] at hown
     have HAL := hid hal
     have HAK : Hid (al ≤ k) := hid (by omega)
     clear hal hak
     go_wp2_with (first
      | (go_at_call 50; refine (Good_q c true _ HP.out).mono ?_; rintro e w' ⟨rfl, rfl⟩)
      | (at_builtin; refine wpList_append_own _ rfl _ _ 58 rfl w.heap.size 5 i0 _ 1 1 Tryz.underlying58 hi hz0 hz1 hz2 rfl (by decide) _ _ _ rfl (hown.alloc _) ⟨wr.heap.size, 0, none⟩ 1 1 [.int .u8 (c.toNat : Int)] rfl rfl ?c1 ?c2 ?c3 ?c4 ?c5 ?_))
     case c1 => exact cells_new wr _ _
     case c2 => exact one_one _
     case c3 => unfold maxLen; omega
     case c4 => omega
     case c5 => have := HB.out.size; simp; omega
     ·intro v' w2 hown' hgrow hnil
      have HW2 := hid hown'
      have HG2 := hid hgrow
      have HOy := hid hown
      clear hown' hgrow hown hnil
      go_wp2
      go_roundw
      case measure => simp [intOf]; omega
      case rel =>
       refine ⟨k + 1, acc ++ [c], by omega, by rw [List.length_append, HAL.out]; show al + 1 ≤ _; have := HAK.out; omega, by go_num, ?_, ?_, HN⟩
       ·rw [map_snoc, List.length_append, HAL.out, ← HYS.out]; exact HW2.out
       ·refine (HB.out.alloc HB.out.size _).grown HG2.out (by have := HB.out.size; simp; omega) ?_
        intro q hq
        exact (HOy.out.lt q hq).1
   ·have HP := hid hgd
    have HE := hid (HR.out.symm.trans (atS_bad (acc := acc) HKL.out (by rw [HG.out]; exact hgd)))
    clear hgd
    go_wp2_with (go_at_call 50; refine (Good_q c false _ HP.out).mono ?_; rintro e w' ⟨rfl, rfl⟩)
    go_ret3
    exact ⟨ret_sib (bytes_ext (by rw [← HOUT.out.1, HE.out]; rfl)) (by rw [← HOUT.out.2.1, HE.out]; rfl) (by rw [← HOUT.out.2.2, HE.out]; rfl), HB.out⟩
  ·obtain rfl : k = n := by omega
   have HE := hid (HR.out.symm.trans (atS_out (acc := acc) (by rw [HLEN.out, hn]; exact Nat.le_refl _)))
   go_wp2
   go_ret3
   exact ⟨ret_sib (bytes_ext (by rw [← HOUT.out.1, HE.out]; rfl)) (by rw [← HOUT.out.2.1, HE.out]; rfl) (by rw [← HOUT.out.2.2, HE.out]; rfl), HB.out⟩
end
section
open Go.RowKit Go.Sort
open Q6
theorem scan_no {l : List UInt8} {i : Int} (h : isQuote l i = false) : scanV l i = [] ∧ scanN l i = 0 ∧ scanE l i = 2 := by
 unfold scanV scanN scanE; rw [h]; exact ⟨rfl, rfl, rfl⟩
theorem scan_is {l : List UInt8} {i : Int} (h : isQuote l i = true) : scanV l i = outV (scanR l i.toNat) ∧ scanN l i = outN (scanR l i.toNat) ∧ scanE l i = outE (scanR l i.toNat) := by
 unfold scanV scanN scanE; rw [h]; exact ⟨rfl, rfl, rfl⟩
theorem Scan_any (s : ByteArray) (i : Int) (w : World) (hs : s.size ≤ 1000000) (i1 : -9223372036854775808 ≤ i) (i2 : i ≤ 9223372036854775807) (q : ByteArray) (x y : Int)
  (hq : scanV s.data.toList i = q.data.toList) (hx : scanN s.data.toList i = x) (hy : scanE s.data.toList i = y) :
  Calls Tryz.prog 43 #[.string s, .int .i64 i] w fun e w' => e = .returned (.tuple #[.string q, .int .i64 x, .int .i64 y]) ∧ Below w.heap.size w w' := by
 have HOUT : Hid (scanV s.data.toList i = q.data.toList ∧ scanN s.data.toList i = x ∧ scanE s.data.toList i = y) := hid ⟨hq, hx, hy⟩
 clear hq hx hy
 have HLEN := hid (len_eq s)
 by_cases h0 : i < 0
 ·have HN := hid (scan_no (l := s.data.toList) (i := i) (by unfold isQuote; rw [decide_eq_false (by omega : ¬ 0 ≤ i)]; rfl))
  go_enter Tryz.func43, Tryz.ntmps43
  go_wp2
  go_ret3
  exact ⟨ret_sii (bytes_ext (by rw [← HOUT.out.1, HN.out.1])) (by rw [← HOUT.out.2.1, HN.out.2.1]) (by rw [← HOUT.out.2.2, HN.out.2.2]), Below.refl _ _⟩
 by_cases h1 : (s.size : Int) ≤ i
 ·have HN := hid (scan_no (l := s.data.toList) (i := i) (by unfold isQuote; rw [decide_eq_false (by rw [HLEN.out]; omega : ¬ i < (s.data.toList.length : Int)), Bool.and_false]; rfl))
  go_enter Tryz.func43, Tryz.ntmps43
  go_wp2
  go_ret3
  exact ⟨ret_sii (bytes_ext (by rw [← HOUT.out.1, HN.out.1])) (by rw [← HOUT.out.2.1, HN.out.2.1]) (by rw [← HOUT.out.2.2, HN.out.2.2]), Below.refl _ _⟩
 obtain ⟨k, rfl⟩ : ∃ k : Nat, i = (k : Int) := ⟨i.toNat, by omega⟩
 have hk : k < s.size := by omega
 have hkz : (k : Int) < (s.size : Int) := by omega
 have hkz' : ¬ (s.size : Int) ≤ (k : Int) := by omega
 obtain ⟨c, hc⟩ : ∃ c, s[k]'hk = c := ⟨_, rfl⟩
 have hg : s.data.toList.getD k 0 = c := (getd s k hk).trans hc
 have hQ : isQuote s.data.toList (k : Int) = (decide (c = 34) || decide (c = 39)) := by
  unfold isQuote
  rw [decide_eq_true (by omega : (0 : Int) ≤ (k : Int)), decide_eq_true (by rw [HLEN.out]; omega : (k : Int) < (s.data.toList.length : Int)), Int.toNat_natCast, hg]; rfl
 have hR : scanR s.data.toList k = if c = 34 then atD s.data.toList [] (k + 1) else atS s.data.toList [] (k + 1) := by unfold scanR; rw [hg]
 have HQ := hid hQ
 have HR := hid hR
 clear hg hQ hR h0 h1
 have kw : IntKind.i64.wrap ((k : Int) + 1) = (k : Int) + 1 := IntWalk.i64_in _ (by omega)
 have ek : ((k + 1 : Nat) : Int) = (k : Int) + 1 := by omega
 by_cases h34 : c = 34
 ·have m34 : ((c.toNat : Int) == 34) = true := by rw [isC_beq 34 c 34 rfl, isC_iff.2 h34]
  have HI := hid (scan_is (l := s.data.toList) (i := (k : Int)) (by rw [HQ.out, decide_eq_true h34]; rfl))
  rw [Int.toNat_natCast, HR.out, if_pos h34] at HI
  have hC := fun w0 => scanDouble_any s (k + 1) w0 hs (by omega) q x y (by rw [← HI.out.1]; exact HOUT.out.1) (by rw [← HI.out.2.1]; exact HOUT.out.2.1) (by rw [← HI.out.2.2]; exact HOUT.out.2.2)
  rw [ek] at hC
  have HC := hid hC
  clear hC ek h34
  go_enter Tryz.func43, Tryz.ntmps43
  go_wp2_with (go_at_call 71; refine (HC.out _).mono ?_; rintro e w' ⟨rfl, hb⟩)
  go_ret3
  exact ⟨rfl, hb⟩
 ·have m34 : ((c.toNat : Int) == 34) = false := by rw [isC_beq 34 c 34 rfl]; exact Bool.eq_false_iff.2 (fun e => h34 (isC_iff.1 e))
  by_cases h39 : c = 39
  ·have m39 : ((c.toNat : Int) == 39) = true := by rw [isC_beq 39 c 39 rfl, isC_iff.2 h39]
   have HI := hid (scan_is (l := s.data.toList) (i := (k : Int)) (by rw [HQ.out, decide_eq_true h39, Bool.or_true]))
   rw [Int.toNat_natCast, HR.out, if_neg h34] at HI
   have hC := fun w0 => scanSingle_any s (k + 1) w0 hs (by omega) q x y (by rw [← HI.out.1]; exact HOUT.out.1) (by rw [← HI.out.2.1]; exact HOUT.out.2.1) (by rw [← HI.out.2.2]; exact HOUT.out.2.2)
   rw [ek] at hC
   have HC := hid hC
   clear hC ek h34 h39
   go_enter Tryz.func43, Tryz.ntmps43
   go_wp2_with (go_at_call 72; refine (HC.out _).mono ?_; rintro e w' ⟨rfl, hb⟩)
   go_ret3
   exact ⟨rfl, hb⟩
  ·have m39 : ((c.toNat : Int) == 39) = false := by rw [isC_beq 39 c 39 rfl]; exact Bool.eq_false_iff.2 (fun e => h39 (isC_iff.1 e))
   have HN := hid (scan_no (l := s.data.toList) (i := (k : Int)) (by rw [HQ.out, decide_eq_false h34, decide_eq_false h39]; rfl))
   clear ek h34 h39
   go_enter Tryz.func43, Tryz.ntmps43
   go_wp2
   go_ret3
   exact ⟨ret_sii (bytes_ext (by rw [← HOUT.out.1, HN.out.1])) (by rw [← HOUT.out.2.1, HN.out.2.1]) (by rw [← HOUT.out.2.2, HN.out.2.2]), Below.refl _ _⟩
end
section
open Go.RowKit Go.Sort
open Q6
theorem out_none {R : Option (List UInt8 × Nat)} (h : outB R = false) : outV R = [] ∧ outN R = 0 ∧ outE R = 3 := by
 cases R with
 | none => exact ⟨rfl, rfl, rfl⟩
 | some p => cases h
theorem out_some {R : Option (List UInt8 × Nat)} (h : outB R = true) : outE R = 0 := by
 cases R with
 | none => cases h
 | some p => rfl
theorem Rdouble_q (s : ByteArray) (k : Nat) (kz : Int) (hk : (k : Int) = kz) (hs : s.size ≤ 100000) (hk0 : k ≤ s.size) (R : Option (List UInt8 × Nat)) (hR : atD s.data.toList [] k = R) (q : ByteArray) (x : Int) (y : Bool)
  (hq : outV R = q.data.toList) (hx : outN R = x) (hy : outB R = y) (w : World) :
  Calls Tryz.prog 47 #[.string s, .int .i64 kz] w fun e w' => e = .returned (.tuple #[.string q, .int .i64 x, .bool y]) ∧ Below w.heap.size w w' := by
 subst hk; subst hR; exact Rdouble_any s k w hs hk0 q x y hq hx hy
theorem Rsingle_q (s : ByteArray) (k : Nat) (kz : Int) (hk : (k : Int) = kz) (hs : s.size ≤ 100000) (hk0 : k ≤ s.size) (R : Option (List UInt8 × Nat)) (hR : atS s.data.toList [] k = R) (q : ByteArray) (x : Int) (y : Bool)
  (hq : outV R = q.data.toList) (hx : outN R = x) (hy : outB R = y) (w : World) :
  Calls Tryz.prog 48 #[.string s, .int .i64 kz] w fun e w' => e = .returned (.tuple #[.string q, .int .i64 x, .bool y]) ∧ Below w.heap.size w w' := by
 subst hk; subst hR; exact Rsingle_any s k w hs hk0 q x y hq hx hy
theorem RScan_any (s : ByteArray) (i : Int) (w : World) (hs : s.size ≤ 100000) (i1 : -9223372036854775808 ≤ i) (i2 : i ≤ 9223372036854775807) (q : ByteArray) (x y : Int)
  (hq : scanV s.data.toList i = q.data.toList) (hx : scanN s.data.toList i = x) (hy : scanE s.data.toList i = y) :
  Calls Tryz.prog 27 #[.string s, .int .i64 i] w fun e w' => e = .returned (.tuple #[.string q, .int .i64 x, .int .i64 y]) ∧ Below w.heap.size w w' := by
 have HOUT : Hid (scanV s.data.toList i = q.data.toList ∧ scanN s.data.toList i = x ∧ scanE s.data.toList i = y) := hid ⟨hq, hx, hy⟩
 clear hq hx hy
 have HLEN := hid (len_eq s)
 by_cases h0 : i < 0
 ·have HN := hid (scan_no (l := s.data.toList) (i := i) (by unfold isQuote; rw [decide_eq_false (by omega : ¬ 0 ≤ i)]; rfl))
  go_enter Tryz.func27, Tryz.ntmps27
  go_wp2
  go_ret3
  exact ⟨ret_sii (bytes_ext (by rw [← HOUT.out.1, HN.out.1])) (by rw [← HOUT.out.2.1, HN.out.2.1]) (by rw [← HOUT.out.2.2, HN.out.2.2]), Below.refl _ _⟩
 by_cases h1 : (s.size : Int) ≤ i
 ·have HN := hid (scan_no (l := s.data.toList) (i := i) (by unfold isQuote; rw [decide_eq_false (by rw [HLEN.out]; omega : ¬ i < (s.data.toList.length : Int)), Bool.and_false]; rfl))
  go_enter Tryz.func27, Tryz.ntmps27
  go_wp2
  go_ret3
  exact ⟨ret_sii (bytes_ext (by rw [← HOUT.out.1, HN.out.1])) (by rw [← HOUT.out.2.1, HN.out.2.1]) (by rw [← HOUT.out.2.2, HN.out.2.2]), Below.refl _ _⟩
 obtain ⟨k, rfl⟩ : ∃ k : Nat, i = (k : Int) := ⟨i.toNat, by omega⟩
 have hk : k < s.size := by omega
 have hkz : (k : Int) < (s.size : Int) := by omega
 have hkz' : ¬ (s.size : Int) ≤ (k : Int) := by omega
 obtain ⟨c, hc⟩ : ∃ c, s[k]'hk = c := ⟨_, rfl⟩
 have hg : s.data.toList.getD k 0 = c := (getd s k hk).trans hc
 have hQ : isQuote s.data.toList (k : Int) = (decide (c = 34) || decide (c = 39)) := by
  unfold isQuote
  rw [decide_eq_true (by omega : (0 : Int) ≤ (k : Int)), decide_eq_true (by rw [HLEN.out]; omega : (k : Int) < (s.data.toList.length : Int)), Int.toNat_natCast, hg]; rfl
 have hR : scanR s.data.toList k = if c = 34 then atD s.data.toList [] (k + 1) else atS s.data.toList [] (k + 1) := by unfold scanR; rw [hg]
 have HQ := hid hQ
 have HR := hid hR
 clear hg hQ hR h0 h1
 have kw : IntKind.i64.wrap ((k : Int) + 1) = (k : Int) + 1 := IntWalk.i64_in _ (by omega)
 by_cases h34 : c = 34
 ·have m34 : ((c.toNat : Int) == 34) = true := by rw [isC_beq 34 c 34 rfl, isC_iff.2 h34]
  have n34 : ((c.toNat : Int) != 34) = false := by rw [isC_bne 34 c 34 rfl, isC_iff.2 h34]; rfl
  have HI := hid (scan_is (l := s.data.toList) (i := (k : Int)) (by rw [HQ.out, decide_eq_true h34]; rfl))
  rw [Int.toNat_natCast, HR.out, if_pos h34] at HI
  obtain ⟨R, hRR⟩ : ∃ R, atD s.data.toList [] (k + 1) = R := ⟨_, rfl⟩
  rw [hRR] at HI
  have hV : outV R = q.data.toList := by rw [← HI.out.1]; exact HOUT.out.1
  have hN : outN R = x := by rw [← HI.out.2.1]; exact HOUT.out.2.1
  have hE : outE R = y := by rw [← HI.out.2.2]; exact HOUT.out.2.2
  rcases Bool.eq_false_or_eq_true (outB R) with hB | hB
  ·have HC := hid (Rdouble_q s (k + 1) ((k : Int) + 1) (by omega) hs (by omega) R hRR q x true hV hN hB)
   have HY : Hid (y = 0) := hid (hE.symm.trans (out_some hB))
   clear h34 hV hN hE hB hRR
   go_enter Tryz.func27, Tryz.ntmps27
   go_wp2_with (go_at_call 47; refine (HC.out _).mono ?_; rintro e w' ⟨rfl, hb⟩)
   go_ret3
   exact ⟨ret_sii rfl rfl HY.out.symm, hb⟩
  ·obtain ⟨o1, o2, o3⟩ := out_none hB
   have hq0 : q = ⟨#[]⟩ := bytes_ext (hV.symm.trans o1)
   have HY : Hid (x = 0 ∧ y = 3) := hid ⟨hN.symm.trans o2, hE.symm.trans o3⟩
   subst hq0
   have HC := hid (Rdouble_q s (k + 1) ((k : Int) + 1) (by omega) hs (by omega) R hRR ⟨#[]⟩ x false hV hN hB)
   clear h34 hV hN hE hB hRR o1 o2 o3
   go_enter Tryz.func27, Tryz.ntmps27
   go_wp2_with (go_at_call 47; refine (HC.out _).mono ?_; rintro e w' ⟨rfl, hb⟩)
   go_ret3
   exact ⟨ret_sii rfl HY.out.1.symm HY.out.2.symm, hb⟩
 ·have m34 : ((c.toNat : Int) == 34) = false := by rw [isC_beq 34 c 34 rfl]; exact Bool.eq_false_iff.2 (fun e => h34 (isC_iff.1 e))
  have n34 : ((c.toNat : Int) != 34) = true := by rw [isC_bne 34 c 34 rfl, Bool.eq_false_iff.2 (fun e => h34 (isC_iff.1 e))]; rfl
  by_cases h39 : c = 39
  ·have n39 : ((c.toNat : Int) != 39) = false := by rw [isC_bne 39 c 39 rfl, isC_iff.2 h39]; rfl
   have HI := hid (scan_is (l := s.data.toList) (i := (k : Int)) (by rw [HQ.out, decide_eq_true h39, Bool.or_true]))
   rw [Int.toNat_natCast, HR.out, if_neg h34] at HI
   obtain ⟨R, hRR⟩ : ∃ R, atS s.data.toList [] (k + 1) = R := ⟨_, rfl⟩
   rw [hRR] at HI
   have hV : outV R = q.data.toList := by rw [← HI.out.1]; exact HOUT.out.1
   have hN : outN R = x := by rw [← HI.out.2.1]; exact HOUT.out.2.1
   have hE : outE R = y := by rw [← HI.out.2.2]; exact HOUT.out.2.2
   rcases Bool.eq_false_or_eq_true (outB R) with hB | hB
   ·have HC := hid (Rsingle_q s (k + 1) ((k : Int) + 1) (by omega) hs (by omega) R hRR q x true hV hN hB)
    have HY : Hid (y = 0) := hid (hE.symm.trans (out_some hB))
    clear h34 h39 hV hN hE hB hRR
    go_enter Tryz.func27, Tryz.ntmps27
    go_wp2_with (go_at_call 48; refine (HC.out _).mono ?_; rintro e w' ⟨rfl, hb⟩)
    go_ret3
    exact ⟨ret_sii rfl rfl HY.out.symm, hb⟩
   ·obtain ⟨o1, o2, o3⟩ := out_none hB
    have hq0 : q = ⟨#[]⟩ := bytes_ext (hV.symm.trans o1)
    have HY : Hid (x = 0 ∧ y = 3) := hid ⟨hN.symm.trans o2, hE.symm.trans o3⟩
    subst hq0
    have HC := hid (Rsingle_q s (k + 1) ((k : Int) + 1) (by omega) hs (by omega) R hRR ⟨#[]⟩ x false hV hN hB)
    clear h34 h39 hV hN hE hB hRR o1 o2 o3
    go_enter Tryz.func27, Tryz.ntmps27
    go_wp2_with (go_at_call 48; refine (HC.out _).mono ?_; rintro e w' ⟨rfl, hb⟩)
    go_ret3
    exact ⟨ret_sii rfl HY.out.1.symm HY.out.2.symm, hb⟩
  ·have n39 : ((c.toNat : Int) != 39) = true := by rw [isC_bne 39 c 39 rfl, Bool.eq_false_iff.2 (fun e => h39 (isC_iff.1 e))]; rfl
   have HN := hid (scan_no (l := s.data.toList) (i := (k : Int)) (by rw [HQ.out, decide_eq_false h34, decide_eq_false h39]; rfl))
   clear h34 h39
   go_enter Tryz.func27, Tryz.ntmps27
   go_wp2
   go_ret3
   exact ⟨ret_sii (bytes_ext (by rw [← HOUT.out.1, HN.out.1])) (by rw [← HOUT.out.2.1, HN.out.2.1]) (by rw [← HOUT.out.2.2, HN.out.2.2]), Below.refl _ _⟩
end
section
open Go.RowKit
open Q6
def behB (l : List UInt8) (k : Nat) (t : List UInt8) : Bool := decide (k = 0) || has t (l.getD (k - 1) 0)
theorem beh_space (l : List UInt8) (k : Nat) : behB l k [32] = decide (prevB l k = 32) := by
 unfold behB prevB has
 by_cases h : k = 0
 ·rw [if_pos h, decide_eq_true h]; rfl
 ·rw [if_neg h, decide_eq_false h, Bool.false_or, decide_eq_decide]
  simp only [List.mem_cons, List.not_mem_nil, or_false]
theorem beh_opens (l : List UInt8) (k : Nat) : behB l k [32, 91, 123, 44] = opens (prevB l k) := by
 unfold behB prevB has opens
 by_cases h : k = 0
 ·rw [if_pos h, decide_eq_true h]; rfl
 ·rw [if_neg h, decide_eq_false h, Bool.false_or]
  generalize l.getD (k - 1) 0 = c
  simp only [List.mem_cons, List.not_mem_nil, or_false, Bool.decide_or, Bool.or_assoc]
theorem behind_any (s t : ByteArray) (k : Nat) (w : World) (hs : s.size ≤ 100000) (hk : k < s.size) (b : Bool) (h : behB s.data.toList k t.data.toList = b) :
  Calls Tryz.prog 85 #[.string s, .int .i64 (k : Int), .string t] w fun e w' => e = .returned (.bool b) ∧ w = w' := by
 have HB := hid h
 clear h
 by_cases h0 : k = 0
 ·subst h0
  have H : Hid (b = true) := hid (by rw [← HB.out]; rfl)
  go_enter Tryz.func85, Tryz.ntmps85
  go_wp2
  go_ret
  exact ⟨ret_b H.out.symm, rfl⟩
 ·obtain ⟨j, rfl⟩ : ∃ j, k = j + 1 := ⟨k - 1, by omega⟩
  have hj : j < s.size := by omega
  have hjz : (j : Int) < (s.size : Int) := by omega
  have hg : s.data.toList.getD j 0 = s[j]'hj := getd s j hj
  obtain ⟨c, hc⟩ : ∃ c, s[j]'hj = c := ⟨_, rfl⟩
  rw [hc] at hg
  have H : Hid (has t.data.toList c = b) := hid (by
   rw [← HB.out]; unfold behB
   rw [decide_eq_false (by omega : ¬ j + 1 = 0), Bool.false_or, Nat.add_sub_cancel, hg])
  have HI := hid (index_has t.data.toList c)
  have hcc : ((c.toNat : Int)).toNat.toUInt8 = c := by simp
  have hX := Tryz.strings_IndexByte t (c.toNat : Int)
  rw [hcc] at hX
  generalize Lib.indexByte t.data.toList c = x at *
  have HX := hid hX
  clear hcc hg hX
  have kz : ((j + 1 : Nat) : Int) = (j : Int) + 1 := by omega
  rw [kz]
  have e1 : ((j : Int) + 1 == 0) = false := beq_eq_false_iff_ne.2 (by omega)
  have e2 : IntKind.i64.wrap ((j : Int) + 1 - 1) = (j : Int) := by rw [Int.add_sub_cancel]; exact IntWalk.i64_in _ (by omega)
  clear kz h0 hk
  go_enter Tryz.func85, Tryz.ntmps85
  go_wp2_with (go_at_call 104; refine (HX.out _).mono ?_; rintro e w' ⟨rfl, hw⟩; subst hw)
  go_ret
  exact ⟨ret_b (HI.out.trans H.out), rfl⟩
theorem behind_space (s : ByteArray) (k : Nat) (w : World) (hs : s.size ≤ 100000) (hk : k < s.size) (b : Bool) (h : decide (prevB s.data.toList k = 32) = b) :
  Calls Tryz.prog 85 #[.string s, .int .i64 (k : Int), .string ⟨#[32]⟩] w fun e w' => e = .returned (.bool b) ∧ w = w' :=
 behind_any s _ k w hs hk b ((beh_space _ _).trans h)
theorem behind_opens (s : ByteArray) (k : Nat) (w : World) (hs : s.size ≤ 100000) (hk : k < s.size) (b : Bool) (h : opens (prevB s.data.toList k) = b) :
  Calls Tryz.prog 85 #[.string s, .int .i64 (k : Int), .string ⟨#[32, 91, 123, 44]⟩] w fun e w' => e = .returned (.bool b) ∧ w = w' :=
 behind_any s _ k w hs hk b ((beh_opens _ _).trans h)
theorem marker_any (s : ByteArray) (b : Bool) (w : World) (h : marker s.data.toList = b) :
  Calls Tryz.prog 57 #[.string s] w fun e w' => e = .returned (.bool b) ∧ w = w' := by
 have H := hid h
 clear h
 unfold marker at H
 by_cases h1 : s.data.toList = [45, 45, 45]
 ·obtain rfl := bytes_of (l := #[45, 45, 45]) h1
  have H2 : Hid (b = true) := hid (by rw [← H.out]; rfl)
  clear h1 H
  go_enter Tryz.func57, Tryz.ntmps57
  go_wp2
  go_ret
  exact ⟨ret_b H2.out.symm, rfl⟩
 by_cases h2 : s.data.toList = [46, 46, 46]
 ·obtain rfl := bytes_of (l := #[46, 46, 46]) h2
  have H2 : Hid (b = true) := hid (by rw [← H.out]; rfl)
  clear h1 h2 H
  go_enter Tryz.func57, Tryz.ntmps57
  go_wp2
  go_ret
  exact ⟨ret_b H2.out.symm, rfl⟩
 have b1 : (s.toList == [45, 45, 45]) = false := by rw [ByteArray.toList_eq]; exact beq_eq_false_iff_ne.2 h1
 have b2 : (s.toList == [46, 46, 46]) = false := by rw [ByteArray.toList_eq]; exact beq_eq_false_iff_ne.2 h2
 have H2 : Hid (b = false) := hid (by rw [← H.out, decide_eq_false h1, decide_eq_false h2]; rfl)
 clear h1 h2 H
 go_enter Tryz.func57, Tryz.ntmps57
 go_wp2
 go_ret
 exact ⟨ret_b H2.out.symm, rfl⟩
end
end Go.Proofs.YtecglpocmhkkiaaGreatDoor
