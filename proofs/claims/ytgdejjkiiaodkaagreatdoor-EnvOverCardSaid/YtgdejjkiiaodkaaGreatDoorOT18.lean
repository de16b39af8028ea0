/- QuoScD -/
import Derived.Test.YtgdejjkiiaodkaaGreatDoorOT17
set_option linter.unusedVariables false
set_option linter.unusedSimpArgs false
set_option maxRecDepth 100000
set_option maxHeartbeats 16000000
open Go.Lib (hid)
namespace Go.Proofs.YtgdejjkiiaodkaaGreatDoor
section
open Go.RowKit Go.Sort
open Q6
theorem denoted_q (s : ByteArray) (l : List UInt8) (v : UInt8) (m : Nat) (w : World) (hs : s.size ≤ maxLen) (hl : s.data.toList = l) (h0 : 1 ≤ l.length) (h : den l = (v, m)) :
  Calls Tryz.prog 116 #[.string s] w fun e w' => e = .returned (.tuple #[.int .u8 v.toNat, .int .i64 m]) ∧ ∃ q, w' = w.drewN q := by
 subst hl; exact denoted_any s v m w hs (by rw [← len_eq]; exact h0) h
theorem rest_data (s : ByteArray) (k : Nat) : (s.extract k s.size).data.toList = s.data.toList.drop k := by
 rw [Lib.extract_data]
 exact List.take_of_length_le (by rw [List.length_drop, len_eq]; exact Nat.le_refl _)
theorem rest_size (s : ByteArray) (k : Nat) (h : k ≤ s.size) : (s.extract k s.size).size = s.size - k := by
 rw [ByteArray.size_extract]; omega
theorem scanDouble_any (s : ByteArray) (k0 : Nat) (w : World) (hs : s.size ≤ 1000000) (hk0 : k0 ≤ s.size) (q : ByteArray) (x y : Int)
  (hq : outV (atD s.data.toList [] k0) = q.data.toList) (hx : outN (atD s.data.toList [] k0) = x) (hy : outE (atD s.data.toList [] k0) = y) :
  Calls Tryz.prog 93 #[.string s, .int .i64 (k0 : Int)] w fun e w' => e = .returned (.tuple #[.string q, .int .i64 x, .int .i64 y]) ∧ Below w.heap.size w w' := by
 obtain ⟨i0, hi, hz0, hz1, hz2⟩ := infoB
 have HOUT : Hid (outV (atD s.data.toList [] k0) = q.data.toList ∧ outN (atD s.data.toList [] k0) = x ∧ outE (atD s.data.toList [] k0) = y) := hid ⟨hq, hx, hy⟩
 clear hq hx hy
 obtain ⟨R, hR⟩ : ∃ R, atD s.data.toList [] k0 = R := ⟨_, rfl⟩
 rw [hR] at HOUT
 have HR0 := hid hR
 clear hR
 have HLEN := hid (len_eq s)
 have HO1 := hid (owns_nil w w.heap.size 5)
 obtain ⟨n, hn⟩ : ∃ n, s.size = n := ⟨_, rfl⟩
 have hsn : n ≤ 1000000 := by omega
 go_enter Tryz.func93, Tryz.ntmps93
 go_wp2
 go_loopw [1, 7] (fun si sv wr => ∃ (k : Nat) (acc : List UInt8), k ≤ n ∧ acc.length ≤ k ∧ si = .int .i64 (k : Int) ∧ wr.ownsRow w.heap.size 5 1 sv acc.length (acc.map encB) ∧ Below w.heap.size w wr ∧ Hid (atD s.data.toList acc k = R)) (fun si _ _ => n - (intOf si).toNat)
 case atStart => exact ⟨k0, [], by omega, Nat.zero_le _, rfl, HO1.out, Below.refl _ _, HR0⟩
 case round =>
  clear HO1 HR0
  obtain ⟨k, acc, hk, hak, rfl, hown, hbel, HR⟩ := hrel
  have HO := hid hown
  have HB := hid hbel
  clear hbel
  by_cases hlt : k < n
  ·have hks : k < s.size := by omega
   have hkl : k < s.data.toList.length := by rw [HLEN.out]; exact hks
   have hskz : (k : Int) < (n : Int) := by omega
   have hg : s.data.toList.getD k 0 = s[k]'hks := getd s k hks
   obtain ⟨c, hc⟩ : ∃ c, s[k]'hks = c := ⟨_, rfl⟩
   rw [hc] at hg
   have HG := hid hg
   have HKL := hid hkl
   clear hg hkl
   by_cases h34 : c = 34
   ·have m34 : ((c.toNat : Int) != 34) = false := by rw [isC_bne 34 c 34 rfl, isC_iff.2 h34]; rfl
    have m34' : ((c.toNat : Int) == 34) = true := by rw [isC_beq 34 c 34 rfl, isC_iff.2 h34]
    have HE := hid (HR.out.symm.trans (atD_end (acc := acc) HKL.out (HG.out.trans h34)))
    clear h34
    have hkn : ((k : Int) == (n : Int)) = false := beq_eq_false_iff_ne.2 (by omega)
    have hkn' : ¬ (k : Int) = (n : Int) := by omega
    rcases own_cases hown with ⟨hv, hA⟩ | ⟨g, cap, hv2, hcv⟩
    ·subst hv
     have HA := hid hA
     clear hown hA
     have hcv := conv_nil wr
     go_wp2
     go_ret3
     exact ⟨ret_sii (bytes_ext (by rw [← HOUT.out.1, HE.out, HA.out]; rfl)) (by rw [← HOUT.out.2.1, HE.out]; rfl) (by rw [← HOUT.out.2.2, HE.out]; rfl), HB.out⟩
    ·subst hv2
     clear hown
     obtain ⟨A, hA⟩ : ∃ A : ByteArray, A = ⟨acc.toArray⟩ := ⟨_, rfl⟩
     rw [← hA] at hcv
     have HA := hid hA
     clear hA
     go_wp2
     go_ret3
     exact ⟨ret_sii (by rw [HA.out]; exact bytes_ext (by rw [← HOUT.out.1, HE.out]; rfl)) (by rw [← HOUT.out.2.1, HE.out]; rfl) (by rw [← HOUT.out.2.2, HE.out]; rfl), HB.out⟩
   ·have m34 : ((c.toNat : Int) != 34) = true := by rw [isC_bne 34 c 34 rfl, Bool.eq_false_iff.2 (fun e => h34 (isC_iff.1 e))]; rfl
    have m34' : ((c.toNat : Int) == 34) = false := by rw [isC_beq 34 c 34 rfl]; exact Bool.eq_false_iff.2 (fun e => h34 (isC_iff.1 e))
    obtain ⟨vm, hvm⟩ : ∃ vm, den (s.data.toList.drop k) = vm := ⟨_, rfl⟩
    obtain ⟨v, m⟩ := vm
    have hml := den_len (s.data.toList.drop k)
    rw [hvm, List.length_drop, HLEN.out] at hml
    have hml' : m ≤ s.size - k := hml
    clear hml
    have hC := (fun w0 => denoted_q (s.extract k s.size) _ v m w0 (by rw [rest_size s k (by omega)]; unfold maxLen; omega) (rest_data s k) (by rw [List.length_drop, HLEN.out]; omega) hvm)
    rw [hn] at hC hml'
    have HC := hid hC
    clear hC
    by_cases hm0 : m = 0
    ·subst hm0
     have HE := hid (HR.out.symm.trans (atD_bad (acc := acc) HKL.out (by rw [HG.out]; exact h34) (by rw [hvm])))
     clear hvm h34
     go_wp2_with (go_at_call 116; refine (HC.out _).mono ?_; rintro e w' ⟨rfl, z, rfl⟩)
     go_ret3
     exact ⟨ret_sii (bytes_ext (by rw [← HOUT.out.1, HE.out]; rfl)) (by rw [← HOUT.out.2.1, HE.out]; rfl) (by rw [← HOUT.out.2.2, HE.out]; rfl), Below.dr HB.out HB.out.size _⟩
    ·have HN := hid ((atD_next (acc := acc) HKL.out (by rw [HG.out]; exact h34) hvm hm0).symm.trans HR.out)
     have mz : ((m : Int) == 0) = false := beq_eq_false_iff_ne.2 (by omega)
     have mz' : ¬ (m : Int) = 0 := by omega
     clear hvm h34
     obtain ⟨YS, hYS⟩ : ∃ YS, YS = acc.map encB := ⟨_, rfl⟩
     rw [← hYS] at hown
     have HYS := hid hYS
     clear hYS
     obtain ⟨al, hal⟩ : ∃ al, acc.length = al := ⟨_, rfl⟩
     have hal2 : al ≤ n := by omega
     rw [hal] at hown
     have HAL := hid hal
     have HAK : Hid (al ≤ k) := hid (by omega)
     clear hal hak
     have kmw : IntKind.i64.wrap ((k : Int) + (m : Int)) = (k : Int) + (m : Int) := IntWalk.i64_in _ (by omega)
     have HKM := hid kmw
     go_wp2_with (first
      | (go_at_call 116; refine (HC.out _).mono ?_; rintro e w' ⟨rfl, z, rfl⟩)
      | (at_builtin; refine wpList_append_own _ rfl _ _ 47 rfl w.heap.size 5 i0 _ 1 1 Tryz.underlying47 hi hz0 hz1 hz2 rfl (by decide) _ _ _ rfl ((owns_drewN hown z).alloc _) ⟨wr.heap.size, 0, none⟩ 1 1 [.int .u8 (v.toNat : Int)] rfl rfl ?c1 ?c2 ?c3 ?c4 ?c5 ?_))
     case c1 => exact cells_new (wr.drewN z) _ _
     case c2 => exact one_one _
     case c3 => unfold maxLen; omega
     case c4 => omega
     case c5 => have := HB.out.size; simp; omega
     ·intro v' w2 hown' hgrow hnil
      have HW2 := hid hown'
      have HG2 := hid hgrow
      have HOy := hid hown
      clear hown' hgrow hown hnil
      go_wp2
      go_roundw
      case measure => have := HKM.out; simp [intOf]; omega
      case rel =>
       refine ⟨k + m, acc ++ [v], by omega, by rw [List.length_append, HAL.out]; show al + 1 ≤ _; have := HAK.out; omega, by go_num, ?_, ?_, HN⟩
       ·rw [map_snoc, List.length_append, HAL.out, ← HYS.out]; exact HW2.out
       ·refine ((Below.dr HB.out HB.out.size z).alloc (by show _ ≤ wr.heap.size; exact HB.out.size) _).grown HG2.out (by have := HB.out.size; simp; omega) ?_
        intro q hq
        exact (HOy.out.lt q hq).1
  ·obtain rfl : k = n := by omega
   have hkn : ((k : Int) == (s.size : Int)) = true := by rw [hn]; exact beq_self_eq_true _
   have HE := hid (HR.out.symm.trans (atD_out (acc := acc) (by rw [HLEN.out, hn]; exact Nat.le_refl _)))
   go_wp2
   go_ret3
   exact ⟨ret_sii (bytes_ext (by rw [← HOUT.out.1, HE.out]; rfl)) (by rw [← HOUT.out.2.1, HE.out]; rfl) (by rw [← HOUT.out.2.2, HE.out]; rfl), HB.out⟩
end
end Go.Proofs.YtgdejjkiiaodkaaGreatDoor
