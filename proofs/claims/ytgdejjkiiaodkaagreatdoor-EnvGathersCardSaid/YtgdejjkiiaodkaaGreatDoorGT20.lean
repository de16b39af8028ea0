/- QuoScS -/
import Derived.Test.YtgdejjkiiaodkaaGreatDoorGT19
set_option linter.unusedVariables false
set_option linter.unusedSimpArgs false
set_option maxRecDepth 100000
set_option maxHeartbeats 16000000
open Go.Lib (hid)
namespace Go.Proofs.YtgdejjkiiaodkaaGreatDoor
section
open Go.RowKit Go.Sort
open Q6
theorem printable_q (c : UInt8) (b : Bool) (w : World) (h : good c = b) : Calls Tryz.prog 68 #[.int .u8 c.toNat] w fun e w' => e = .returned (.bool b) ∧ w = w' := by
 subst h; exact printable_any c w
theorem prefix_q (s : ByteArray) (l : List UInt8) (b : Bool) (w : World) (hl : s.data.toList = l) (h : Lib.hasPrefix l [39, 39] = b) :
  Calls Tryz.prog 29 #[.string s, .string ⟨#[39, 39]⟩] w fun e w' => e = .returned (.bool b) ∧ w = w' := by
 subst hl; subst h
 exact (Tryz.strings_HasPrefix s ⟨#[39, 39]⟩ w).mono fun e w' ⟨h1, h2⟩ => ⟨h1, h2.symm⟩
theorem prefix_two {l : List UInt8} {k : Nat} (h : k < l.length) (hc : l.getD k 0 = 39) (h1 : k + 1 < l.length) (hd : l.getD (k + 1) 0 = 39) : Lib.hasPrefix (l.drop k) [39, 39] = true := by
 rw [drop_cons h, drop_cons h1, hc, hd]; simp [Lib.hasPrefix, List.isPrefixOf]
theorem prefix_not {l : List UInt8} {k : Nat} (h : k < l.length) (hd : ¬ (k + 1 < l.length ∧ l.getD (k + 1) 0 = 39)) : Lib.hasPrefix (l.drop k) [39, 39] = false := by
 rw [drop_cons h]
 by_cases h1 : k + 1 < l.length
 ·rw [drop_cons h1]
  have hd' : l.getD (k + 1) 0 ≠ 39 := fun e => hd ⟨h1, e⟩
  have hb : ((39 : UInt8) == l.getD (k + 1) 0) = false := beq_eq_false_iff_ne.2 (Ne.symm hd')
  simp only [Lib.hasPrefix, List.isPrefixOf, hb, Bool.false_and, Bool.and_false]
 ·rw [List.drop_of_length_le (by omega)]
  simp [Lib.hasPrefix, List.isPrefixOf]
theorem scanSingle_any (s : ByteArray) (k0 : Nat) (w : World) (hs : s.size ≤ 1000000) (hk0 : k0 ≤ s.size) (q : ByteArray) (x y : Int)
  (hq : outV (atS s.data.toList [] k0) = q.data.toList) (hx : outN (atS s.data.toList [] k0) = x) (hy : outE (atS s.data.toList [] k0) = y) :
  Calls Tryz.prog 94 #[.string s, .int .i64 (k0 : Int)] w fun e w' => e = .returned (.tuple #[.string q, .int .i64 x, .int .i64 y]) ∧ Below w.heap.size w w' := by
 obtain ⟨i0, hi, hz0, hz1, hz2⟩ := infoB
 have HOUT : Hid (outV (atS s.data.toList [] k0) = q.data.toList ∧ outN (atS s.data.toList [] k0) = x ∧ outE (atS s.data.toList [] k0) = y) := hid ⟨hq, hx, hy⟩
 clear hq hx hy
 obtain ⟨R, hR⟩ : ∃ R, atS s.data.toList [] k0 = R := ⟨_, rfl⟩
 rw [hR] at HOUT
 have HR0 := hid hR
 clear hR
 have HLEN := hid (len_eq s)
 have HO1 := hid (owns_nil w w.heap.size 5)
 obtain ⟨n, hn⟩ : ∃ n, s.size = n := ⟨_, rfl⟩
 have hsn : n ≤ 1000000 := by omega
 go_enter Tryz.func94, Tryz.ntmps94
 go_wp2
 go_loopw [1, 7] (fun si sv wr => ∃ (k : Nat) (acc : List UInt8), k ≤ n ∧ acc.length ≤ k ∧ si = .int .i64 (k : Int) ∧ wr.ownsRow w.heap.size 5 1 sv acc.length (acc.map encB) ∧ Below w.heap.size w wr ∧ Hid (atS s.data.toList acc k = R)) (fun si _ _ => n - (intOf si).toNat)
 case atStart => exact ⟨k0, [], by omega, Nat.zero_le _, rfl, HO1.out, Below.refl _ _, HR0⟩
 case round =>
  clear HO1 HR0
  obtain ⟨k, acc, hk, hak, rfl, hown, hbel, HR⟩ := hrel
  have HO := hid hown
  have HB := hid hbel
  clear hbel
  by_cases hlt : k < n
  ·have hks : k < s.size := by omega
   have hkl : k < s.data.toList.length := by rw [HLEN.out]; exact hks
   have hskz : (k : Int) < (n : Int) := by omega
   have hg : s.data.toList.getD k 0 = s[k]'hks := getd s k hks
   obtain ⟨c, hc⟩ : ∃ c, s[k]'hks = c := ⟨_, rfl⟩
   rw [hc] at hg
   have HG := hid hg
   have HKL := hid hkl
   clear hg hkl
   rcases Bool.eq_false_or_eq_true (good c) with hgd | hgd
   ·have HP := hid hgd
    clear hgd
    by_cases h39 : c = 39
    ·have m39 : ((c.toNat : Int) == 39) = true := by rw [isC_beq 39 c 39 rfl, isC_iff.2 h39]
     by_cases h2 : k + 1 < s.data.toList.length ∧ s.data.toList.getD (k + 1) 0 = 39
     ·have hkn1 : k + 1 < n := by have := h2.1; rw [HLEN.out] at this; omega
      have hks1 : k + 1 < s.size := by omega
      have hk1z : (k : Int) + 1 < (n : Int) := by omega
      have hg1 : s.data.toList.getD (k + 1) 0 = s[k + 1]'hks1 := getd s (k + 1) hks1
      have hc1 : s[k + 1]'hks1 = 39 := by rw [← hg1]; exact h2.2
      have HN := hid ((atS_two (acc := acc) h2.1 (HG.out.trans h39) h2.2).symm.trans HR.out)
      have hC := prefix_q (s.extract k s.size) (s.data.toList.drop k) true
      have hC2 := fun w0 => hC w0 (rest_data s k) (prefix_two HKL.out (HG.out.trans h39) h2.1 h2.2)
      rw [hn] at hC2
      have HC := hid hC2
      clear hC hC2 h2 h39 hg1
      obtain ⟨YS, hYS⟩ : ∃ YS, YS = acc.map encB := ⟨_, rfl⟩
      rw [← hYS] at hown
      have HYS := hid hYS
      clear hYS
      obtain ⟨al, hal⟩ : ∃ al, acc.length = al := ⟨_, rfl⟩
      have hal2 : al ≤ n := by omega
      rw [hal] at hown
      have HAL := hid hal
      have HAK : Hid (al ≤ k) := hid (by omega)
      clear hal hak
      go_wp2_with (first
       | (go_at_call 68; refine (printable_q c true _ HP.out).mono ?_; rintro e w' ⟨rfl, rfl⟩)
       | (go_at_call 29; refine (HC.out _).mono ?_; rintro e w' ⟨rfl, rfl⟩)
       | (at_builtin; refine wpList_append_own _ rfl _ _ 47 rfl w.heap.size 5 i0 _ 1 1 Tryz.underlying47 hi hz0 hz1 hz2 rfl (by decide) _ _ _ rfl (hown.alloc _) ⟨wr.heap.size, 0, none⟩ 1 1 [.int .u8 39] rfl rfl ?c1 ?c2 ?c3 ?c4 ?c5 ?_))
      case c1 => exact cells_new wr _ _
      case c2 => exact one_one _
      case c3 => unfold maxLen; omega
      case c4 => omega
      case c5 => have := HB.out.size; simp; omega
      ·intro v' w2 hown' hgrow hnil
       have HW2 := hid hown'
       have HG2 := hid hgrow
       have HOy := hid hown
       clear hown' hgrow hown hnil
       go_wp2
       go_roundw
       case measure => simp [intOf]; omega
       case rel =>
        refine ⟨k + 2, acc ++ [39], by omega, by rw [List.length_append, HAL.out]; show al + 1 ≤ _; have := HAK.out; omega, by go_num, ?_, ?_, HN⟩
        ·rw [map_snoc, List.length_append, HAL.out, ← HYS.out]; exact HW2.out
        ·refine (HB.out.alloc HB.out.size _).grown HG2.out (by have := HB.out.size; simp; omega) ?_
         intro q hq
         exact (HOy.out.lt q hq).1
     ·have HE := hid (HR.out.symm.trans (atS_end (acc := acc) HKL.out (HG.out.trans h39) h2))
      have hC := prefix_q (s.extract k s.size) (s.data.toList.drop k) false
      have hC2 := fun w0 => hC w0 (rest_data s k) (prefix_not HKL.out h2)
      rw [hn] at hC2
      have HC := hid hC2
      clear hC hC2 h2 h39
      rcases own_cases hown with ⟨hv, hA⟩ | ⟨g, cap, hv2, hcv⟩
      ·subst hv
       have HA := hid hA
       clear hown hA
       have hcv := conv_nil wr
       go_wp2_with (first
        | (go_at_call 68; refine (printable_q c true _ HP.out).mono ?_; rintro e w' ⟨rfl, rfl⟩)
        | (go_at_call 29; refine (HC.out _).mono ?_; rintro e w' ⟨rfl, rfl⟩))
       go_ret3
       exact ⟨ret_sii (bytes_ext (by rw [← HOUT.out.1, HE.out, HA.out]; rfl)) (by rw [← HOUT.out.2.1, HE.out]; rfl) (by rw [← HOUT.out.2.2, HE.out]; rfl), HB.out⟩
      ·subst hv2
       clear hown
       obtain ⟨A, hA⟩ : ∃ A : ByteArray, A = ⟨acc.toArray⟩ := ⟨_, rfl⟩
       rw [← hA] at hcv
       have HA := hid hA
       clear hA
       go_wp2_with (first
        | (go_at_call 68; refine (printable_q c true _ HP.out).mono ?_; rintro e w' ⟨rfl, rfl⟩)
        | (go_at_call 29; refine (HC.out _).mono ?_; rintro e w' ⟨rfl, rfl⟩))
       go_ret3
       exact ⟨ret_sii (by rw [HA.out]; exact bytes_ext (by rw [← HOUT.out.1, HE.out]; rfl)) (by rw [← HOUT.out.2.1, HE.out]; rfl) (by rw [← HOUT.out.2.2, HE.out]; rfl), HB.out⟩
    ·have m39 : ((c.toNat : Int) == 39) = false := by rw [isC_beq 39 c 39 rfl]; exact Bool.eq_false_iff.2 (fun e => h39 (isC_iff.1 e))
     have HN := hid ((atS_next (acc := acc) HKL.out (by rw [HG.out]; exact HP.out) (by rw [HG.out]; exact h39)).symm.trans HR.out)
     rw [HG.out] at HN
     clear h39
     obtain ⟨YS, hYS⟩ : ∃ YS, YS = acc.map encB := ⟨_, rfl⟩
     rw [← hYS] at hown
     have HYS := hid hYS
     clear hYS
     obtain ⟨al, hal⟩ : ∃ al, acc.length = al := ⟨_, rfl⟩
     have hal2 : al ≤ n := by omega
     rw [hal] at hown
     have HAL := hid hal
     have HAK : Hid (al ≤ k) := hid (by omega)
     clear hal hak
     go_wp2_with (first
      | (go_at_call 68; refine (printable_q c true _ HP.out).mono ?_; rintro e w' ⟨rfl, rfl⟩)
      | (at_builtin; refine wpList_append_own _ rfl _ _ 47 rfl w.heap.size 5 i0 _ 1 1 Tryz.underlying47 hi hz0 hz1 hz2 rfl (by decide) _ _ _ rfl (hown.alloc _) ⟨wr.heap.size, 0, none⟩ 1 1 [.int .u8 (c.toNat : Int)] rfl rfl ?c1 ?c2 ?c3 ?c4 ?c5 ?_))
     case c1 => exact cells_new wr _ _
     case c2 => exact one_one _
     case c3 => unfold maxLen; omega
     case c4 => omega
     case c5 => have := HB.out.size; simp; omega
     ·intro v' w2 hown' hgrow hnil
      have HW2 := hid hown'
      have HG2 := hid hgrow
      have HOy := hid hown
      clear hown' hgrow hown hnil
      go_wp2
      go_roundw
      case measure => simp [intOf]; omega
      case rel =>
       refine ⟨k + 1, acc ++ [c], by omega, by rw [List.length_append, HAL.out]; show al + 1 ≤ _; have := HAK.out; omega, by go_num, ?_, ?_, HN⟩
       ·rw [map_snoc, List.length_append, HAL.out, ← HYS.out]; exact HW2.out
       ·refine (HB.out.alloc HB.out.size _).grown HG2.out (by have := HB.out.size; simp; omega) ?_
        intro q hq
        exact (HOy.out.lt q hq).1
   ·have HP := hid hgd
    have HE := hid (HR.out.symm.trans (atS_bad (acc := acc) HKL.out (by rw [HG.out]; exact hgd)))
    clear hgd
    go_wp2_with (go_at_call 68; refine (printable_q c false _ HP.out).mono ?_; rintro e w' ⟨rfl, rfl⟩)
    go_ret3
    exact ⟨ret_sii (bytes_ext (by rw [← HOUT.out.1, HE.out]; rfl)) (by rw [← HOUT.out.2.1, HE.out]; rfl) (by rw [← HOUT.out.2.2, HE.out]; rfl), HB.out⟩
  ·obtain rfl : k = n := by omega
   have HE := hid (HR.out.symm.trans (atS_out (acc := acc) (by rw [HLEN.out, hn]; exact Nat.le_refl _)))
   go_wp2
   go_ret3
   exact ⟨ret_sii (bytes_ext (by rw [← HOUT.out.1, HE.out]; rfl)) (by rw [← HOUT.out.2.1, HE.out]; rfl) (by rw [← HOUT.out.2.2, HE.out]; rfl), HB.out⟩
end
end Go.Proofs.YtgdejjkiiaodkaaGreatDoor
