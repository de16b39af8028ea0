/- QuoScD, QuoScS, QuoSingle -/
import Derived.Shelf.Vars
import Derived.Test.YtecglpocmhkkiaaGreatDoorST10
import Derived.Test.YtecglpocmhkkiaaGreatDoorST9
set_option linter.unusedVariables false
set_option linter.unusedSimpArgs false
set_option maxRecDepth 100000
set_option maxHeartbeats 16000000
open Go.Lib (hid)
namespace Go.Proofs.YtecglpocmhkkiaaGreatDoor
section
open Go.RowKit Go.Sort
open Q6
theorem denoted_q (s : ByteArray) (l : List UInt8) (v : UInt8) (m : Nat) (w : World) (hs : s.size ≤ maxLen) (hl : s.data.toList = l) (h0 : 1 ≤ l.length) (h : den l = (v, m)) :
  Calls Tryz.prog 102 #[.string s] w fun e w' => e = .returned (.tuple #[.int .u8 v.toNat, .int .i64 m]) ∧ ∃ q, w' = w.drewN q := by
 subst hl; exact denoted_any s v m w hs (by rw [← len_eq]; exact h0) h
theorem rest_data (s : ByteArray) (k : Nat) : (s.extract k s.size).data.toList = s.data.toList.drop k := by
 rw [Lib.extract_data]
 exact List.take_of_length_le (by rw [List.length_drop, len_eq]; exact Nat.le_refl _)
theorem rest_size (s : ByteArray) (k : Nat) (h : k ≤ s.size) : (s.extract k s.size).size = s.size - k := by
 rw [ByteArray.size_extract]; omega
theorem scanDouble_any (s : ByteArray) (k0 : Nat) (w : World) (hs : s.size ≤ 1000000) (hk0 : k0 ≤ s.size) (q : ByteArray) (x y : Int)
  (hq : outV (atD s.data.toList [] k0) = q.data.toList) (hx : outN (atD s.data.toList [] k0) = x) (hy : outE (atD s.data.toList [] k0) = y) :
  Calls Tryz.prog 71 #[.string s, .int .i64 (k0 : Int)] w fun e w' => e = .returned (.tuple #[.string q, .int .i64 x, .int .i64 y]) ∧ Below w.heap.size w w' := by
 obtain ⟨i0, hi, hz0, hz1, hz2⟩ := infoB
 have HOUT : Hid (outV (atD s.data.toList [] k0) = q.data.toList ∧ outN (atD s.data.toList [] k0) = x ∧ outE (atD s.data.toList [] k0) = y) := hid ⟨hq, hx, hy⟩
 clear hq hx hy
 obtain ⟨R, hR⟩ : ∃ R, atD s.data.toList [] k0 = R := ⟨_, rfl⟩
 rw [hR] at HOUT
 have HR0 := hid hR
 clear hR
 have HLEN := hid (len_eq s)
 have HO1 := hid (owns_nil w w.heap.size 5)
 obtain ⟨n, hn⟩ : ∃ n, s.size = n := ⟨_, rfl⟩
 have hsn : n ≤ 1000000 := by omega
 go_enter Tryz.func71, Tryz.ntmps71
 go_wp2
 go_loopw [1, 7] (fun si sv wr => ∃ (k : Nat) (acc : List UInt8), k ≤ n ∧ acc.length ≤ k ∧ si = .int .i64 (k : Int) ∧ wr.ownsRow w.heap.size 5 1 sv acc.length (acc.map encB) ∧ Below w.heap.size w wr ∧ Hid (atD s.data.toList acc k = R)) (fun si _ _ => n - (intOf si).toNat)
 case atStart => exact ⟨k0, [], by omega, Nat.zero_le _, rfl, HO1.out, Below.refl _ _, HR0⟩
 case round =>
  clear HO1 HR0
  obtain ⟨k, acc, hk, hak, rfl, hown, hbel, HR⟩ := hrel
  have HO := hid hown
  have HB := hid hbel
  clear hbel
  by_cases hlt : k < n
  ·have hks : k < s.size := by omega
   have hkl : k < s.data.toList.length := by rw [HLEN.out]; exact hks
   have hskz : (k : Int) < (n : Int) := by omega
   have hg : s.data.toList.getD k 0 = s[k]'hks := getd s k hks
   obtain ⟨c, hc⟩ : ∃ c, s[k]'hks = c := ⟨_, rfl⟩
   rw [hc] at hg
   have HG := hid hg
   have HKL := hid hkl
   clear hg hkl
   by_cases h34 : c = 34
   ·have m34 : ((c.toNat : Int) != 34) = false := by rw [isC_bne 34 c 34 rfl, isC_iff.2 h34]; rfl
    have m34' : ((c.toNat : Int) == 34) = true := by rw [isC_beq 34 c 34 rfl, isC_iff.2 h34]
    have HE := hid (HR.out.symm.trans (atD_end (acc := acc) HKL.out (HG.out.trans h34)))
    clear h34
    have hkn : ((k : Int) == (n : Int)) = false := beq_eq_false_iff_ne.2 (by omega)
    have hkn' : ¬ (k : Int) = (n : Int) := by omega
    rcases own_cases hown with ⟨hv, hA⟩ | ⟨g, cap, hv2, hcv⟩
    ·subst hv
     have HA := hid hA
     clear hown hA
     have hcv := conv_nil wr
     go_wp2
     go_ret3
     exact ⟨ret_sii (bytes_ext (by rw [← HOUT.out.1, HE.out, HA.out]; rfl)) (by rw [← HOUT.out.2.1, HE.out]; rfl) (by rw [← HOUT.out.2.2, HE.out]; rfl), HB.out⟩
    ·subst hv2
     clear hown
     obtain ⟨A, hA⟩ : ∃ A : ByteArray, A = ⟨acc.toArray⟩ := ⟨_, rfl⟩
     rw [← hA] at hcv
     have HA := hid hA
     clear hA
     go_wp2
     go_ret3
     exact ⟨ret_sii (by rw [HA.out]; exact bytes_ext (by rw [← HOUT.out.1, HE.out]; rfl)) (by rw [← HOUT.out.2.1, HE.out]; rfl) (by rw [← HOUT.out.2.2, HE.out]; rfl), HB.out⟩
   ·have m34 : ((c.toNat : Int) != 34) = true := by rw [isC_bne 34 c 34 rfl, Bool.eq_false_iff.2 (fun e => h34 (isC_iff.1 e))]; rfl
    have m34' : ((c.toNat : Int) == 34) = false := by rw [isC_beq 34 c 34 rfl]; exact Bool.eq_false_iff.2 (fun e => h34 (isC_iff.1 e))
    obtain ⟨vm, hvm⟩ : ∃ vm, den (s.data.toList.drop k) = vm := ⟨_, rfl⟩
    obtain ⟨v, m⟩ := vm
    have hml := den_len (s.data.toList.drop k)
    rw [hvm, List.length_drop, HLEN.out] at hml
    have hml' : m ≤ s.size - k := hml
    clear hml
    have hC := (fun w0 => denoted_q (s.extract k s.size) _ v m w0 (by rw [rest_size s k (by omega)]; unfold maxLen; omega) (rest_data s k) (by rw [List.length_drop, HLEN.out]; omega) hvm)
    rw [hn] at hC hml'
    have HC := hid hC
    clear hC
    by_cases hm0 : m = 0
    ·subst hm0
     have HE := hid (HR.out.symm.trans (atD_bad (acc := acc) HKL.out (by rw [HG.out]; exact h34) (by rw [hvm])))
     clear hvm h34
     go_wp2_with (go_at_call 102; refine (HC.out _).mono ?_; rintro e w' ⟨rfl, z, rfl⟩)
     go_ret3
     exact ⟨ret_sii (bytes_ext (by rw [← HOUT.out.1, HE.out]; rfl)) (by rw [← HOUT.out.2.1, HE.out]; rfl) (by rw [← HOUT.out.2.2, HE.out]; rfl), Below.dr HB.out HB.out.size _⟩
    ·have HN := hid ((atD_next (acc := acc) HKL.out (by rw [HG.out]; exact h34) hvm hm0).symm.trans HR.out)
     have mz : ((m : Int) == 0) = false := beq_eq_false_iff_ne.2 (by omega)
     have mz' : ¬ (m : Int) = 0 := by omega
     clear hvm h34
     obtain ⟨YS, hYS⟩ : ∃ YS, YS = acc.map encB := ⟨_, rfl⟩
     rw [← hYS] at hown
     have HYS := hid hYS
     clear hYS
     obtain ⟨al, hal⟩ : ∃ al, acc.length = al := ⟨_, rfl⟩
     have hal2 : al ≤ n := by omega
     rw [hal] at hown
     have HAL := hid hal
     have HAK : Hid (al ≤ k) := hid (by omega)
     clear hal hak
     have kmw : IntKind.i64.wrap ((k : Int) + (m : Int)) = (k : Int) + (m : Int) := IntWalk.i64_in _ (by omega)
     have HKM := hid kmw
     go_wp2_with (first
      | (go_at_call 102; refine (HC.out _).mono ?_; rintro e w' ⟨rfl, z, rfl⟩)
      | (at_builtin; refine wpList_append_own _ rfl _ _ 58 rfl w.heap.size 5 i0 _ 1 1 Tryz.underlying58 hi hz0 hz1 hz2 rfl (by decide) _ _ _ rfl ((owns_drewN hown z).alloc _) ⟨wr.heap.size, 0, none⟩ 1 1 [.int .u8 (v.toNat : Int)] rfl rfl ?c1 ?c2 ?c3 ?c4 ?c5 ?_))
     case c1 => exact cells_new (wr.drewN z) _ _
     case c2 => exact one_one _
     case c3 => unfold maxLen; omega
     case c4 => omega
     case c5 => have := HB.out.size; simp; omega
     ·intro v' w2 hown' hgrow hnil
      have HW2 := hid hown'
      have HG2 := hid hgrow
      have HOy := hid hown
      clear hown' hgrow hown hnil
      go_wp2
      go_roundw
      case measure => have := HKM.out; simp [intOf]; omega
      case rel =>
       refine ⟨k + m, acc ++ [v], by omega, by rw [List.length_append, HAL.out]; show al + 1 ≤ _; have := HAK.out; omega, by go_num, ?_, ?_, HN⟩
       ·rw [map_snoc, List.length_append, HAL.out, ← HYS.out]; exact HW2.out
       ·refine ((Below.dr HB.out HB.out.size z).alloc (by show _ ≤ wr.heap.size; exact HB.out.size) _).grown HG2.out (by have := HB.out.size; simp; omega) ?_
        intro q hq
        exact (HOy.out.lt q hq).1
  ·obtain rfl : k = n := by omega
   have hkn : ((k : Int) == (s.size : Int)) = true := by rw [hn]; exact beq_self_eq_true _
   have HE := hid (HR.out.symm.trans (atD_out (acc := acc) (by rw [HLEN.out, hn]; exact Nat.le_refl _)))
   go_wp2
   go_ret3
   exact ⟨ret_sii (bytes_ext (by rw [← HOUT.out.1, HE.out]; rfl)) (by rw [← HOUT.out.2.1, HE.out]; rfl) (by rw [← HOUT.out.2.2, HE.out]; rfl), HB.out⟩
end
section
open Go.RowKit Go.Sort
open Q6
theorem printable_q (c : UInt8) (b : Bool) (w : World) (h : good c = b) : Calls Tryz.prog 77 #[.int .u8 c.toNat] w fun e w' => e = .returned (.bool b) ∧ w = w' := by
 subst h; exact printable_any c w
theorem prefix_q (s : ByteArray) (l : List UInt8) (b : Bool) (w : World) (hl : s.data.toList = l) (h : Lib.hasPrefix l [39, 39] = b) :
  Calls Tryz.prog 31 #[.string s, .string ⟨#[39, 39]⟩] w fun e w' => e = .returned (.bool b) ∧ w = w' := by
 subst hl; subst h
 exact (Tryz.strings_HasPrefix s ⟨#[39, 39]⟩ w).mono fun e w' ⟨h1, h2⟩ => ⟨h1, h2.symm⟩
theorem prefix_two {l : List UInt8} {k : Nat} (h : k < l.length) (hc : l.getD k 0 = 39) (h1 : k + 1 < l.length) (hd : l.getD (k + 1) 0 = 39) : Lib.hasPrefix (l.drop k) [39, 39] = true := by
 rw [drop_cons h, drop_cons h1, hc, hd]; simp [Lib.hasPrefix, List.isPrefixOf]
theorem prefix_not {l : List UInt8} {k : Nat} (h : k < l.length) (hd : ¬ (k + 1 < l.length ∧ l.getD (k + 1) 0 = 39)) : Lib.hasPrefix (l.drop k) [39, 39] = false := by
 rw [drop_cons h]
 by_cases h1 : k + 1 < l.length
 ·rw [drop_cons h1]
  have hd' : l.getD (k + 1) 0 ≠ 39 := fun e => hd ⟨h1, e⟩
  have hb : ((39 : UInt8) == l.getD (k + 1) 0) = false := beq_eq_false_iff_ne.2 (Ne.symm hd')
  simp only [Lib.hasPrefix, List.isPrefixOf, hb, Bool.false_and, Bool.and_false]
 ·rw [List.drop_of_length_le (by omega)]
  simp [Lib.hasPrefix, List.isPrefixOf]
theorem scanSingle_any (s : ByteArray) (k0 : Nat) (w : World) (hs : s.size ≤ 1000000) (hk0 : k0 ≤ s.size) (q : ByteArray) (x y : Int)
  (hq : outV (atS s.data.toList [] k0) = q.data.toList) (hx : outN (atS s.data.toList [] k0) = x) (hy : outE (atS s.data.toList [] k0) = y) :
  Calls Tryz.prog 72 #[.string s, .int .i64 (k0 : Int)] w fun e w' => e = .returned (.tuple #[.string q, .int .i64 x, .int .i64 y]) ∧ Below w.heap.size w w' := by
 obtain ⟨i0, hi, hz0, hz1, hz2⟩ := infoB
 have HOUT : Hid (outV (atS s.data.toList [] k0) = q.data.toList ∧ outN (atS s.data.toList [] k0) = x ∧ outE (atS s.data.toList [] k0) = y) := hid ⟨hq, hx, hy⟩
 clear hq hx hy
 obtain ⟨R, hR⟩ : ∃ R, atS s.data.toList [] k0 = R := ⟨_, rfl⟩
 rw [hR] at HOUT
 have HR0 := hid hR
 clear hR
 have HLEN := hid (len_eq s)
 have HO1 := hid (owns_nil w w.heap.size 5)
 obtain ⟨n, hn⟩ : ∃ n, s.size = n := ⟨_, rfl⟩
 have hsn : n ≤ 1000000 := by omega
 go_enter Tryz.func72, Tryz.ntmps72
 go_wp2
 go_loopw [1, 7] (fun si sv wr => ∃ (k : Nat) (acc : List UInt8), k ≤ n ∧ acc.length ≤ k ∧ si = .int .i64 (k : Int) ∧ wr.ownsRow w.heap.size 5 1 sv acc.length (acc.map encB) ∧ Below w.heap.size w wr ∧ Hid (atS s.data.toList acc k = R)) (fun si _ _ => n - (intOf si).toNat)
 case atStart => exact ⟨k0, [], by omega, Nat.zero_le _, rfl, HO1.out, Below.refl _ _, HR0⟩
 case round =>
  clear HO1 HR0
  obtain ⟨k, acc, hk, hak, rfl, hown, hbel, HR⟩ := hrel
  have HO := hid hown
  have HB := hid hbel
  clear hbel
  by_cases hlt : k < n
  ·have hks : k < s.size := by omega
   have hkl : k < s.data.toList.length := by rw [HLEN.out]; exact hks
   have hskz : (k : Int) < (n : Int) := by omega
   have hg : s.data.toList.getD k 0 = s[k]'hks := getd s k hks
   obtain ⟨c, hc⟩ : ∃ c, s[k]'hks = c := ⟨_, rfl⟩
   rw [hc] at hg
   have HG := hid hg
   have HKL := hid hkl
   clear hg hkl
   rcases Bool.eq_false_or_eq_true (good c) with hgd | hgd
   ·have HP := hid hgd
    clear hgd
    by_cases h39 : c = 39
    ·have m39 : ((c.toNat : Int) == 39) = true := by rw [isC_beq 39 c 39 rfl, isC_iff.2 h39]
     by_cases h2 : k + 1 < s.data.toList.length ∧ s.data.toList.getD (k + 1) 0 = 39
     ·have hkn1 : k + 1 < n := by have := h2.1; rw [HLEN.out] at this; omega
      have hks1 : k + 1 < s.size := by omega
      have hk1z : (k : Int) + 1 < (n : Int) := by omega
      have hg1 : s.data.toList.getD (k + 1) 0 = s[k + 1]'hks1 := getd s (k + 1) hks1
      have hc1 : s[k + 1]'hks1 = 39 := by rw [← hg1]; exact h2.2
      have HN := hid ((atS_two (acc := acc) h2.1 (HG.out.trans h39) h2.2).symm.trans HR.out)
      have hC := prefix_q (s.extract k s.size) (s.data.toList.drop k) true
      have hC2 := fun w0 => hC w0 (rest_data s k) (prefix_two HKL.out (HG.out.trans h39) h2.1 h2.2)
      rw [hn] at hC2
      have HC := hid hC2
      clear hC hC2 h2 h39 hg1
      obtain ⟨YS, hYS⟩ : ∃ YS, YS = acc.map encB := ⟨_, rfl⟩
      rw [← hYS] at hown
      have HYS := hid hYS
      clear hYS
      obtain ⟨al, hal⟩ : ∃ al, acc.length = al := ⟨_, rfl⟩
      have hal2 : al ≤ n := by omega
      rw [hal] at hown
      have HAL := hid hal
      have HAK : Hid (al ≤ k) := hid (by omega)
      clear hal hak
      go_wp2_with (first
       | (go_at_call 77; refine (printable_q c true _ HP.out).mono ?_; rintro e w' ⟨rfl, rfl⟩)
       | (go_at_call 31; refine (HC.out _).mono ?_; rintro e w' ⟨rfl, rfl⟩)
       | (at_builtin; refine wpList_append_own _ rfl _ _ 58 rfl w.heap.size 5 i0 _ 1 1 Tryz.underlying58 hi hz0 hz1 hz2 rfl (by decide) _ _ _ rfl (hown.alloc _) ⟨wr.heap.size, 0, none⟩ 1 1 [.int .u8 39] rfl rfl ?c1 ?c2 ?c3 ?c4 ?c5 ?_))
      case c1 => exact cells_new wr _ _
      case c2 => exact one_one _
      case c3 => unfold maxLen; omega
      case c4 => omega
      case c5 => have := HB.out.size; simp; omega
      ·intro v' w2 hown' hgrow hnil
       have HW2 := hid hown'
       have HG2 := hid hgrow
       have HOy := hid hown
       clear hown' hgrow hown hnil
       go_wp2
       go_roundw
       case measure => simp [intOf]; omega
       case rel =>
        refine ⟨k + 2, acc ++ [39], by omega, by rw [List.length_append, HAL.out]; show al + 1 ≤ _; have := HAK.out; omega, by go_num, ?_, ?_, HN⟩
        ·rw [map_snoc, List.length_append, HAL.out, ← HYS.out]; exact HW2.out
        ·refine (HB.out.alloc HB.out.size _).grown HG2.out (by have := HB.out.size; simp; omega) ?_
         intro q hq
         exact (HOy.out.lt q hq).1
     ·have HE := hid (HR.out.symm.trans (atS_end (acc := acc) HKL.out (HG.out.trans h39) h2))
      have hC := prefix_q (s.extract k s.size) (s.data.toList.drop k) false
      have hC2 := fun w0 => hC w0 (rest_data s k) (prefix_not HKL.out h2)
      rw [hn] at hC2
      have HC := hid hC2
      clear hC hC2 h2 h39
      rcases own_cases hown with ⟨hv, hA⟩ | ⟨g, cap, hv2, hcv⟩
      ·subst hv
       have HA := hid hA
       clear hown hA
       have hcv := conv_nil wr
       go_wp2_with (first
        | (go_at_call 77; refine (printable_q c true _ HP.out).mono ?_; rintro e w' ⟨rfl, rfl⟩)
        | (go_at_call 31; refine (HC.out _).mono ?_; rintro e w' ⟨rfl, rfl⟩))
       go_ret3
       exact ⟨ret_sii (bytes_ext (by rw [← HOUT.out.1, HE.out, HA.out]; rfl)) (by rw [← HOUT.out.2.1, HE.out]; rfl) (by rw [← HOUT.out.2.2, HE.out]; rfl), HB.out⟩
      ·subst hv2
       clear hown
       obtain ⟨A, hA⟩ : ∃ A : ByteArray, A = ⟨acc.toArray⟩ := ⟨_, rfl⟩
       rw [← hA] at hcv
       have HA := hid hA
       clear hA
       go_wp2_with (first
        | (go_at_call 77; refine (printable_q c true _ HP.out).mono ?_; rintro e w' ⟨rfl, rfl⟩)
        | (go_at_call 31; refine (HC.out _).mono ?_; rintro e w' ⟨rfl, rfl⟩))
       go_ret3
       exact ⟨ret_sii (by rw [HA.out]; exact bytes_ext (by rw [← HOUT.out.1, HE.out]; rfl)) (by rw [← HOUT.out.2.1, HE.out]; rfl) (by rw [← HOUT.out.2.2, HE.out]; rfl), HB.out⟩
    ·have m39 : ((c.toNat : Int) == 39) = false := by rw [isC_beq 39 c 39 rfl]; exact Bool.eq_false_iff.2 (fun e => h39 (isC_iff.1 e))
     have HN := hid ((atS_next (acc := acc) HKL.out (by rw [HG.out]; exact HP.out) (by rw [HG.out]; exact h39)).symm.trans HR.out)
     rw [HG.out] at HN
     clear h39
     obtain ⟨YS, hYS⟩ : ∃ YS, YS = acc.map encB := ⟨_, rfl⟩
     rw [← hYS] at hown
     have HYS := hid hYS
     clear hYS
     obtain ⟨al, hal⟩ : ∃ al, acc.length = al := ⟨_, rfl⟩
     have hal2 : al ≤ n := by omega
     rw [hal] at hown
     have HAL := hid hal
     have HAK : Hid (al ≤ k) := hid (by omega)
     clear hal hak
     go_wp2_with (first
      | (go_at_call 77; refine (printable_q c true _ HP.out).mono ?_; rintro e w' ⟨rfl, rfl⟩)
      | (at_builtin; refine wpList_append_own _ rfl _ _ 58 rfl w.heap.size 5 i0 _ 1 1 Tryz.underlying58 hi hz0 hz1 hz2 rfl (by decide) _ _ _ rfl (hown.alloc _) ⟨wr.heap.size, 0, none⟩ 1 1 [.int .u8 (c.toNat : Int)] rfl rfl ?c1 ?c2 ?c3 ?c4 ?c5 ?_))
     case c1 => exact cells_new wr _ _
     case c2 => exact one_one _
     case c3 => unfold maxLen; omega
     case c4 => omega
     case c5 => have := HB.out.size; simp; omega
     ·intro v' w2 hown' hgrow hnil
      have HW2 := hid hown'
      have HG2 := hid hgrow
      have HOy := hid hown
      clear hown' hgrow hown hnil
      go_wp2
      go_roundw
      case measure => simp [intOf]; omega
      case rel =>
       refine ⟨k + 1, acc ++ [c], by omega, by rw [List.length_append, HAL.out]; show al + 1 ≤ _; have := HAK.out; omega, by go_num, ?_, ?_, HN⟩
       ·rw [map_snoc, List.length_append, HAL.out, ← HYS.out]; exact HW2.out
       ·refine (HB.out.alloc HB.out.size _).grown HG2.out (by have := HB.out.size; simp; omega) ?_
        intro q hq
        exact (HOy.out.lt q hq).1
   ·have HP := hid hgd
    have HE := hid (HR.out.symm.trans (atS_bad (acc := acc) HKL.out (by rw [HG.out]; exact hgd)))
    clear hgd
    go_wp2_with (go_at_call 77; refine (printable_q c false _ HP.out).mono ?_; rintro e w' ⟨rfl, rfl⟩)
    go_ret3
    exact ⟨ret_sii (bytes_ext (by rw [← HOUT.out.1, HE.out]; rfl)) (by rw [← HOUT.out.2.1, HE.out]; rfl) (by rw [← HOUT.out.2.2, HE.out]; rfl), HB.out⟩
  ·obtain rfl : k = n := by omega
   have HE := hid (HR.out.symm.trans (atS_out (acc := acc) (by rw [HLEN.out, hn]; exact Nat.le_refl _)))
   go_wp2
   go_ret3
   exact ⟨ret_sii (bytes_ext (by rw [← HOUT.out.1, HE.out]; rfl)) (by rw [← HOUT.out.2.1, HE.out]; rfl) (by rw [← HOUT.out.2.2, HE.out]; rfl), HB.out⟩
end
section
open Go.RowKit Go.Sort
open Q6
def SomeMax (w : World) : Prop := ∃ m, w.cell? ⟨0, 0, none⟩ = some (.int .i64 m)
theorem SomeMax.keep {w w' : World} (h : SomeMax w) (hb : Below w.heap.size w w') : SomeMax w' := by
 obtain ⟨m, hm⟩ := h
 exact ⟨m, (hb.cell (World.block_lt_of_cell? _ _ hm)).trans hm⟩
theorem someMax_of_shape {w : World} (h : w.ShapedOpen Tryz.prog) : SomeMax w :=
 cell_of_shapedOpen_int (zero := #[.int .i64 0]) (t := 3) h (of_decide_eq_true (by kernel_rfl)) (by kernel_rfl) rfl (by kernel_rfl) (by kernel_rfl) Tryz.underlying3
def sglB (l : List UInt8) : Bool := everyB goodF l
def sglV (l : List UInt8) : List UInt8 := if sglB l then sglL l else []
theorem sqL_len (l : List UInt8) : (sqL l).length ≤ 2 * l.length := by
 induction l with
 | nil => exact Nat.le_refl _
 | cons c l ih =>
  rw [sqL_cons, List.length_append, List.length_cons]
  have : (sq c).length ≤ 2 := by
   unfold sq; split
   ·exact Nat.le_refl _
   ·show 1 ≤ 2; decide
  omega
theorem replace_any (s q : ByteArray) (w : World) (hw : SomeMax w) (hs : s.size ≤ 1000000) (h : sqL s.data.toList = q.data.toList) :
  Calls Tryz.prog 112 #[.string s, .string ⟨#[39]⟩, .string ⟨#[39, 39]⟩] w fun e w' => e = .returned (.string q) ∧ Below w.heap.size w w' := by
 obtain ⟨m, hm⟩ := hw
 have hc := Lib.countB_le ⟨#[39]⟩ (by decide) s.size s (Nat.le_refl _)
 refine (Tryz.strings_ReplaceAll s ⟨#[39]⟩ ⟨#[39, 39]⟩ m w (by omega) hm (by decide) (by show _ + _ * 2 ≤ _; omega)).mono ?_
 rintro e w' ⟨rfl, hb⟩
 exact ⟨by show Ending.returned (.string ⟨(Lib.replaceAll s.data.toList [39] [39, 39]).toArray⟩) = _; rw [replace_sq, h], hb⟩
theorem ret_sb {a b : ByteArray} {c d : Bool} (h : a = b) (g : c = d) : Ending.returned (.tuple #[.string a, .bool c]) = .returned (.tuple #[.string b, .bool d]) := by rw [h, g]
theorem Single_any (s : ByteArray) (w : World) (hw : SomeMax w) (hs : s.size ≤ 200000) (q : ByteArray) (b : Bool) (hq : sglV s.data.toList = q.data.toList) (hb : sglB s.data.toList = b) :
  Calls Tryz.prog 89 #[.string s] w fun e w' => e = .returned (.tuple #[.string q, .bool b]) ∧ Below w.heap.size w w' := by
 have hs' : s.size ≤ maxLen := by unfold maxLen; omega
 have HW := hid hw
 have HP := hid hb
 cases b with
 | false =>
  have HQ : Hid (q.data.toList = []) := hid (by rw [← hq]; unfold sglV; rw [hb]; rfl)
  clear hq hb hw
  go_enter Tryz.func89, Tryz.ntmps89
  go_wp2_with (go_at_call 74; refine (every_q _ _ goodF false _ hs' tells_good HP.out).mono ?_; rintro e w' ⟨rfl, rfl⟩)
  go_ret2
  exact ⟨ret_sb (bytes_ext HQ.out.symm) rfl, Below.refl _ _⟩
 | true =>
  have HQ : Hid (q.data.toList = sglL s.data.toList) := hid (by rw [← hq]; unfold sglV; rw [hb]; rfl)
  obtain ⟨r, hr⟩ : ∃ r : ByteArray, sqL s.data.toList = r.data.toList := ⟨⟨(sqL s.data.toList).toArray⟩, by simp⟩
  have HR := hid hr
  have hrs : r.size ≤ 400000 := by
   have h1 : (sqL s.data.toList).length = r.size := by rw [hr]; rfl
   have h2 := sqL_len s.data.toList
   rw [len_eq] at h2
   omega
  clear hq hb hw hr
  go_enter Tryz.func89, Tryz.ntmps89
  go_wp2_with (first | (go_at_call 74; refine (every_q _ _ goodF true _ hs' tells_good HP.out).mono ?_; rintro e w' ⟨rfl, rfl⟩) | (go_at_call 112; refine (replace_any s r _ HW.out (by omega) HR.out).mono ?_; rintro e w' ⟨rfl, hb⟩))
  go_ret2
  exact ⟨ret_sb (bytes_ext (by rw [data_app, data_app, HQ.out]; unfold sglL; rw [HR.out]; rfl)) rfl, hb⟩
end
end Go.Proofs.YtecglpocmhkkiaaGreatDoor
