/- RefDbl -/
import Derived.Test.YtgdejjkiiaodkaaGreatDoorPT20
import Derived.Test.YtgdejjkiiaodkaaGreatDoorPT22
set_option linter.unusedVariables false
set_option linter.unusedSimpArgs false
set_option maxRecDepth 100000
set_option maxHeartbeats 16000000
open Go.Lib (hid)
namespace Go.Proofs.YtgdejjkiiaodkaaGreatDoor
section
open Go.RowKit Go.Sort
open Q6
theorem step_append_own {P : Program} {ops : Array Oper} {o : Oper} {a : Act} {w : World} {K : Act → World → Prop} {Q : Exit → Act → World → Prop} {E : Prop} (hg : o.guard = none) (s x : Operand) (t : TypeId)
  (ho : o.op = .call { callee := .builtin .append, args := #[s, x], argTypes := #[t, t] })
  (base : Nat) (e : TypeId) (i : TypeInfo) (z : Value) (size bytes : Nat) (ht : P.underlying t = some (.slice e)) (hi : P.info? e = some i) (hz : i.zero = some z)
  (hsize : i.size = size) (hby : i.bytes = bytes) (hzs : z.cells.size = size) (hsz : 0 < size)
  (v : Value) (n : Nat) (xs : List Value) (hs : a.eval s = v) (hown : w.ownsRow base e size v n xs)
  (ad : Addr) (m c : Nat) (news : List Value) (hx : a.eval x = .slice (some ad) m c) (hl : news.length = m * size) (hnews : ∀ j u, news[j]? = some u → w.cell? (ad.add j) = some u) (h1 : ∀ u ∈ news, u.oneCell' = true)
  (h63 : n + m ≤ maxLen) (hbytes : (n + m) * bytes ≤ 140737488355328) (hbase : base ≤ w.heap.size)
  (h : ∀ v' w', w'.ownsRow base e size v' (n + m) (xs ++ news) → w.grownBy w' v.ownBlock → (v' = .slice none 0 0 ↔ v = .slice none 0 0 ∧ m = 0) → K (a.put o.dst v') w') :
  if Region.wanted o (yielded ops a.tmps) = true then Oper.wp P o a w K Q else E := by
 rw [if_pos (by simp [Region.wanted, hg])]
 exact wp_append_own w s x t ho base e i z size bytes ht hi hz hsize hby hzs hsz v n xs hs hown ad m c news hx hl hnews h1 h63 hbytes hbase h
theorem own_nil (w : World) (e : TypeId) : (w.alloc (.cells #[] e)).ownsRow w.heap.size e 1 (.slice (some ⟨w.heap.size, 0, none⟩) 0 0) 0 [] := by
 refine ⟨rfl, .inr ⟨w.heap.size, 0, #[], rfl, Nat.le_refl _, ?_, Nat.zero_le _, Nat.zero_le _, rfl, rfl⟩⟩
 show (w.heap.push _)[w.heap.size]? = _
 simp
theorem ret_sib {a b : ByteArray} {m n : Int} {e f : Bool} (h : a = b) (g : m = n) (k : e = f) : Ending.returned (.tuple #[.string a, .int .i64 m, .bool e]) = .returned (.tuple #[.string b, .int .i64 n, .bool f]) := by rw [h, g, k]
theorem den_bad {l : List UInt8} {k : Nat} {c : UInt8} (h : k < l.length) (hc : l.getD k 0 = c) (hg : good c = false) : (den (l.drop k)).2 = 0 ∧ c ≠ 34 := by
 have h92 : c ≠ 92 := fun e => by rw [e] at hg; revert hg; decide
 have h34 : c ≠ 34 := fun e => by rw [e] at hg; revert hg; decide
 rw [drop_cons h, hc, den_cons, if_neg h92, if_neg (by rw [hg]; decide)]
 exact ⟨rfl, h34⟩
theorem den_one {l : List UInt8} {k : Nat} {c : UInt8} (h : k < l.length) (hc : l.getD k 0 = c) (hg : good c = true) (h92 : c ≠ 92) : den (l.drop k) = (c, 1) := by
 rw [drop_cons h, hc, den_cons, if_neg h92, if_pos hg]
theorem den_back {l : List UInt8} {k : Nat} (h : k < l.length) (hc : l.getD k 0 = 92) : den (l.drop k) = denB (l.drop (k + 1)) := by
 rw [drop_cons h, hc, den_cons, if_pos rfl]
theorem denB_at {l : List UInt8} {k : Nat} {d : UInt8} (h : k < l.length) (hd : l.getD k 0 = d) : denB (l.drop k) = if d = 92 ∨ d = 34 then (d, 2) else if d = 110 then (10, 2) else if d = 116 then (9, 2) else if d = 120 then denX (l.drop (k + 1)) else (0, 0) := by
 rw [drop_cons h, hd, denB_cons]
theorem denX_at {l : List UInt8} {k : Nat} {a b : UInt8} (h : k + 1 < l.length) (ha : l.getD k 0 = a) (hb : l.getD (k + 1) 0 = b) : denX (l.drop k) = if hexV a < 16 ∧ hexV b < 16 then (UInt8.ofNat (16 * hexV a + hexV b), 4) else (0, 0) := by
 rw [drop_cons (show k < l.length by omega), drop_cons h, ha, hb, denX_two]
theorem denX_short {l : List UInt8} {k : Nat} (h : l.length ≤ k + 1) : denX (l.drop k) = (0, 0) := by
 have hl : (l.drop k).length ≤ 1 := by rw [List.length_drop]; omega
 generalize l.drop k = d at hl
 match d, hl with
 | [], _ => rfl
 | [a], _ => rfl
theorem value_x (c : UInt8) (v : Nat) (w : World) (h : Hid (hexV c = v)) : Calls Tryz.prog 118 #[.int .u8 c.toNat] w fun e w' => e = .returned (.int .i64 (v : Int)) ∧ w = w' := value_q c v w h.out
theorem Rdouble_any (s : ByteArray) (k0 : Nat) (w : World) (hs : s.size ≤ 100000) (hk0 : k0 ≤ s.size) (q : ByteArray) (x : Int) (y : Bool)
  (hq : outV (atD s.data.toList [] k0) = q.data.toList) (hx : outN (atD s.data.toList [] k0) = x) (hy : outB (atD s.data.toList [] k0) = y) :
  Calls Tryz.prog 97 #[.string s, .int .i64 (k0 : Int)] w fun e w' => e = .returned (.tuple #[.string q, .int .i64 x, .bool y]) ∧ Below w.heap.size w w' := by
 obtain ⟨i0, hi, hz0, hz1, hz2⟩ := infoB
 have HOUT : Hid (outV (atD s.data.toList [] k0) = q.data.toList ∧ outN (atD s.data.toList [] k0) = x ∧ outB (atD s.data.toList [] k0) = y) := hid ⟨hq, hx, hy⟩
 clear hq hx hy
 obtain ⟨R, hR⟩ : ∃ R, atD s.data.toList [] k0 = R := ⟨_, rfl⟩
 rw [hR] at HOUT
 have HR0 := hid hR
 clear hR
 have HLEN := hid (len_eq s)
 have HO1 := hid (own_nil w 5)
 have HB1 := hid ((Below.refl _ w).alloc (Nat.le_refl _) (.cells #[] 5))
 obtain ⟨n, hn⟩ : ∃ n, s.size = n := ⟨_, rfl⟩
 have hsn : n ≤ 100000 := by omega
 go_enter Tryz.func97, Tryz.ntmps97
 go_wp2
 go_loopw [1, 7] (fun si sv wr => ∃ (k : Nat) (acc : List UInt8), k ≤ n ∧ acc.length ≤ k ∧ si = .int .i64 (k : Int) ∧ wr.ownsRow w.heap.size 5 1 sv acc.length (acc.map encB) ∧ Below w.heap.size w wr ∧ Hid (atD s.data.toList acc k = R)) (fun si _ _ => n - (intOf si).toNat)
 case atStart => exact ⟨k0, [], by omega, Nat.zero_le _, rfl, HO1.out, HB1.out, HR0⟩
 case round =>
  clear HO1 HR0 HB1
  obtain ⟨k, acc, hk, hak, rfl, hown, hbel, HR⟩ := hrel
  have HO := hid hown
  have HB := hid hbel
  clear hbel
  by_cases hlt : k < n
  ·have hks : k < s.size := by omega
   have hkl : k < s.data.toList.length := by rw [HLEN.out]; exact hks
   have hskz : (k : Int) < (n : Int) := by omega
   have hg : s.data.toList.getD k 0 = s[k]'hks := getd s k hks
   obtain ⟨c, hc⟩ : ∃ c, s[k]'hks = c := ⟨_, rfl⟩
   rw [hc] at hg
   have HG := hid hg
   have HKL := hid hkl
   clear hg hkl
   rcases Bool.eq_false_or_eq_true (good c) with hgd | hgd
   ·have HP := hid hgd
    clear hgd
    by_cases h34 : c = 34
    ·have m34 : ((c.toNat : Int) == 34) = true := by rw [isC_beq 34 c 34 rfl, isC_iff.2 h34]
     have HE := hid (HR.out.symm.trans (atD_end (acc := acc) HKL.out (HG.out.trans h34)))
     clear h34
     rcases own_cases hown with ⟨hv, hA⟩ | ⟨g, cap, hv2, hcv⟩
     ·subst hv
      have HA := hid hA
      clear hown hA
      have hcv := conv_nil wr
      go_wp2_with (first | (go_at_call 41; refine (Good_q c true _ HP.out).mono ?_; rintro e w' ⟨rfl, rfl⟩))
      go_ret3
      exact ⟨ret_sib (bytes_ext (by rw [← HOUT.out.1, HE.out, HA.out]; rfl)) (by rw [← HOUT.out.2.1, HE.out]; rfl) (by rw [← HOUT.out.2.2, HE.out]; rfl), HB.out⟩
     ·subst hv2
      clear hown
      obtain ⟨A, hA⟩ : ∃ A : ByteArray, A = ⟨acc.toArray⟩ := ⟨_, rfl⟩
      rw [← hA] at hcv
      have HA := hid hA
      clear hA
      go_wp2_with (first | (go_at_call 41; refine (Good_q c true _ HP.out).mono ?_; rintro e w' ⟨rfl, rfl⟩))
      go_ret3
      exact ⟨ret_sib (by rw [HA.out]; exact bytes_ext (by rw [← HOUT.out.1, HE.out]; rfl)) (by rw [← HOUT.out.2.1, HE.out]; rfl) (by rw [← HOUT.out.2.2, HE.out]; rfl), HB.out⟩
    ·have m34 : ((c.toNat : Int) == 34) = false := by rw [isC_beq 34 c 34 rfl]; exact Bool.eq_false_iff.2 (fun e => h34 (isC_iff.1 e))
     by_cases h92 : c = 92
     ·have m92 : ((c.toNat : Int) == 92) = true := by rw [isC_beq 92 c 92 rfl, isC_iff.2 h92]
      have n92 : ((c.toNat : Int) != 92) = false := by rw [isC_bne 92 c 92 rfl, isC_iff.2 h92]; rfl
      have HDB := hid (den_back HKL.out (HG.out.trans h92))
      have H34 : Hid (s.data.toList.getD k 0 ≠ 34) := hid (by rw [HG.out]; exact h34)
      clear h92 h34
      by_cases h1 : k + 1 < n
      ·have hks1 : k + 1 < s.size := by omega
       have hkl1 : k + 1 < s.data.toList.length := by rw [HLEN.out]; exact hks1
       have hk1z : (k : Int) + 1 < (n : Int) := by omega
       have hk1z' : ¬ (n : Int) ≤ (k : Int) + 1 := by omega
       obtain ⟨d, hd⟩ : ∃ d, s[k + 1]'hks1 = d := ⟨_, rfl⟩
       have hgd1 : s.data.toList.getD (k + 1) 0 = d := (getd s (k + 1) hks1).trans hd
       have HDA := hid (HDB.out.trans (denB_at hkl1 hgd1))
       clear hkl1 hgd1
       by_cases e92 : d = 92
       ·have d92 : ((d.toNat : Int) == 92) = true := by rw [isC_beq 92 d 92 rfl]; exact isC_iff.2 e92
        have HN := hid ((atD_next (acc := acc) HKL.out H34.out (HDA.out.trans (by rw [if_pos (.inl e92)])) (by decide)).symm.trans HR.out)
        clear e92
        obtain ⟨YS, hYS⟩ : ∃ YS, YS = acc.map encB := ⟨_, rfl⟩
        rw [← hYS] at hown
        have HYS := hid hYS
        clear hYS
        obtain ⟨al, hal⟩ : ∃ al, acc.length = al := ⟨_, rfl⟩
        have hal2 : al ≤ n := by omega
        rw [hal] at hown
        have HAL := hid hal
        have HAK : Hid (al ≤ k) := hid (by omega)
        clear hal hak
        go_wp2_with (first
         | (go_at_call 41; refine (Good_q c true _ HP.out).mono ?_; rintro e w' ⟨rfl, rfl⟩)
         | (at_builtin; refine wpList_append_own _ rfl _ _ 47 rfl w.heap.size 5 i0 _ 1 1 Tryz.underlying47 hi hz0 hz1 hz2 rfl (by decide) _ _ _ rfl (hown.alloc _) ⟨wr.heap.size, 0, none⟩ 1 1 [.int .u8 (d.toNat : Int)] rfl rfl ?c1 ?c2 ?c3 ?c4 ?c5 ?_))
        case c1 => exact cells_new wr _ _
        case c2 => exact one_one _
        case c3 => unfold maxLen; omega
        case c4 => omega
        case c5 => have := HB.out.size; simp; omega
        ·intro v' w2 hown' hgrow hnil
         have HW2 := hid hown'
         have HG2 := hid hgrow
         have HOy := hid hown
         clear hown' hgrow hown hnil
         go_wp2
         go_roundw
         case measure => simp [intOf]; omega
         case rel =>
          refine ⟨k + 2, acc ++ [d], by omega, by rw [List.length_append, HAL.out]; show al + 1 ≤ _; have := HAK.out; omega, by go_num, ?_, ?_, HN⟩
          ·rw [map_snoc, List.length_append, HAL.out, ← HYS.out]; exact HW2.out
          ·refine (HB.out.alloc HB.out.size _).grown HG2.out (by have := HB.out.size; simp; omega) ?_
           intro q hq
           exact (HOy.out.lt q hq).1
       ·have d92 : ((d.toNat : Int) == 92) = false := by rw [isC_beq 92 d 92 rfl]; exact Bool.eq_false_iff.2 (fun e => e92 (isC_iff.1 e))
        by_cases e34 : d = 34
        ·have d34 : ((d.toNat : Int) == 34) = true := by rw [isC_beq 34 d 34 rfl]; exact isC_iff.2 e34
         have HN := hid ((atD_next (acc := acc) HKL.out H34.out (HDA.out.trans (by rw [if_pos (.inr e34)])) (by decide)).symm.trans HR.out)
         clear e34 e92
         obtain ⟨YS, hYS⟩ : ∃ YS, YS = acc.map encB := ⟨_, rfl⟩
         rw [← hYS] at hown
         have HYS := hid hYS
         clear hYS
         obtain ⟨al, hal⟩ : ∃ al, acc.length = al := ⟨_, rfl⟩
         have hal2 : al ≤ n := by omega
         rw [hal] at hown
         have HAL := hid hal
         have HAK : Hid (al ≤ k) := hid (by omega)
         clear hal hak
         go_wp2_with (first
          | (go_at_call 41; refine (Good_q c true _ HP.out).mono ?_; rintro e w' ⟨rfl, rfl⟩)
          | (at_builtin; refine wpList_append_own _ rfl _ _ 47 rfl w.heap.size 5 i0 _ 1 1 Tryz.underlying47 hi hz0 hz1 hz2 rfl (by decide) _ _ _ rfl (hown.alloc _) ⟨wr.heap.size, 0, none⟩ 1 1 [.int .u8 (d.toNat : Int)] rfl rfl ?c1 ?c2 ?c3 ?c4 ?c5 ?_))
         case c1 => exact cells_new wr _ _
         case c2 => exact one_one _
         case c3 => unfold maxLen; omega
         case c4 => omega
         case c5 => have := HB.out.size; simp; omega
         ·intro v' w2 hown' hgrow hnil
          have HW2 := hid hown'
          have HG2 := hid hgrow
          have HOy := hid hown
          clear hown' hgrow hown hnil
          go_wp2
          go_roundw
          case measure => simp [intOf]; omega
          case rel =>
           refine ⟨k + 2, acc ++ [d], by omega, by rw [List.length_append, HAL.out]; show al + 1 ≤ _; have := HAK.out; omega, by go_num, ?_, ?_, HN⟩
           ·rw [map_snoc, List.length_append, HAL.out, ← HYS.out]; exact HW2.out
           ·refine (HB.out.alloc HB.out.size _).grown HG2.out (by have := HB.out.size; simp; omega) ?_
            intro q hq
            exact (HOy.out.lt q hq).1
        ·have d34 : ((d.toNat : Int) == 34) = false := by rw [isC_beq 34 d 34 rfl]; exact Bool.eq_false_iff.2 (fun e => e34 (isC_iff.1 e))
         have nn : ¬ (d = 92 ∨ d = 34) := fun e => e.elim e92 e34
         by_cases e110 : d = 110
         ·have d110 : ((d.toNat : Int) == 110) = true := by rw [isC_beq 110 d 110 rfl]; exact isC_iff.2 e110
          have HN := hid ((atD_next (acc := acc) HKL.out H34.out (HDA.out.trans (by rw [if_neg nn, if_pos e110])) (by decide)).symm.trans HR.out)
          clear e34 e92 e110 nn
          obtain ⟨YS, hYS⟩ : ∃ YS, YS = acc.map encB := ⟨_, rfl⟩
          rw [← hYS] at hown
          have HYS := hid hYS
          clear hYS
          obtain ⟨al, hal⟩ : ∃ al, acc.length = al := ⟨_, rfl⟩
          have hal2 : al ≤ n := by omega
          rw [hal] at hown
          have HAL := hid hal
          have HAK : Hid (al ≤ k) := hid (by omega)
          clear hal hak
          go_wp2_with (first
           | (go_at_call 41; refine (Good_q c true _ HP.out).mono ?_; rintro e w' ⟨rfl, rfl⟩)
           | (at_builtin; refine wpList_append_own _ rfl _ _ 47 rfl w.heap.size 5 i0 _ 1 1 Tryz.underlying47 hi hz0 hz1 hz2 rfl (by decide) _ _ _ rfl (hown.alloc _) ⟨wr.heap.size, 0, none⟩ 1 1 [.int .u8 10] rfl rfl ?c1 ?c2 ?c3 ?c4 ?c5 ?_))
          case c1 => exact cells_new wr _ _
          case c2 => exact one_one _
          case c3 => unfold maxLen; omega
          case c4 => omega
          case c5 => have := HB.out.size; simp; omega
          ·intro v' w2 hown' hgrow hnil
           have HW2 := hid hown'
           have HG2 := hid hgrow
           have HOy := hid hown
           clear hown' hgrow hown hnil
           go_wp2
           go_roundw
           case measure => simp [intOf]; omega
           case rel =>
            refine ⟨k + 2, acc ++ [10], by omega, by rw [List.length_append, HAL.out]; show al + 1 ≤ _; have := HAK.out; omega, by go_num, ?_, ?_, HN⟩
            ·rw [map_snoc, List.length_append, HAL.out, ← HYS.out]; exact HW2.out
            ·refine (HB.out.alloc HB.out.size _).grown HG2.out (by have := HB.out.size; simp; omega) ?_
             intro q hq
             exact (HOy.out.lt q hq).1
         ·have d110 : ((d.toNat : Int) == 110) = false := by rw [isC_beq 110 d 110 rfl]; exact Bool.eq_false_iff.2 (fun e => e110 (isC_iff.1 e))
          by_cases e116 : d = 116
          ·have d116 : ((d.toNat : Int) == 116) = true := by rw [isC_beq 116 d 116 rfl]; exact isC_iff.2 e116
           have HN := hid ((atD_next (acc := acc) HKL.out H34.out (HDA.out.trans (by rw [if_neg nn, if_neg e110, if_pos e116])) (by decide)).symm.trans HR.out)
           clear e34 e92 e110 e116 nn
           obtain ⟨YS, hYS⟩ : ∃ YS, YS = acc.map encB := ⟨_, rfl⟩
           rw [← hYS] at hown
           have HYS := hid hYS
           clear hYS
           obtain ⟨al, hal⟩ : ∃ al, acc.length = al := ⟨_, rfl⟩
           have hal2 : al ≤ n := by omega
           rw [hal] at hown
           have HAL := hid hal
           have HAK : Hid (al ≤ k) := hid (by omega)
           clear hal hak
           go_wp2_with (first
            | (go_at_call 41; refine (Good_q c true _ HP.out).mono ?_; rintro e w' ⟨rfl, rfl⟩)
            | (at_builtin; refine wpList_append_own _ rfl _ _ 47 rfl w.heap.size 5 i0 _ 1 1 Tryz.underlying47 hi hz0 hz1 hz2 rfl (by decide) _ _ _ rfl (hown.alloc _) ⟨wr.heap.size, 0, none⟩ 1 1 [.int .u8 9] rfl rfl ?c1 ?c2 ?c3 ?c4 ?c5 ?_))
           case c1 => exact cells_new wr _ _
           case c2 => exact one_one _
           case c3 => unfold maxLen; omega
           case c4 => omega
           case c5 => have := HB.out.size; simp; omega
           ·intro v' w2 hown' hgrow hnil
            have HW2 := hid hown'
            have HG2 := hid hgrow
            have HOy := hid hown
            clear hown' hgrow hown hnil
            go_wp2
            go_roundw
            case measure => simp [intOf]; omega
            case rel =>
             refine ⟨k + 2, acc ++ [9], by omega, by rw [List.length_append, HAL.out]; show al + 1 ≤ _; have := HAK.out; omega, by go_num, ?_, ?_, HN⟩
             ·rw [map_snoc, List.length_append, HAL.out, ← HYS.out]; exact HW2.out
             ·refine (HB.out.alloc HB.out.size _).grown HG2.out (by have := HB.out.size; simp; omega) ?_
              intro q hq
              exact (HOy.out.lt q hq).1
          ·have d116 : ((d.toNat : Int) == 116) = false := by rw [isC_beq 116 d 116 rfl]; exact Bool.eq_false_iff.2 (fun e => e116 (isC_iff.1 e))
           by_cases e120 : d = 120
           ·have d120 : ((d.toNat : Int) == 120) = true := by rw [isC_beq 120 d 120 rfl]; exact isC_iff.2 e120
            have HDX := hid (HDA.out.trans (by rw [if_neg nn, if_neg e110, if_neg e116, if_pos e120]))
            clear e34 e92 e110 e116 e120 nn
            by_cases h3 : k + 3 < n
            ·have hks2 : k + 2 < s.size := by omega
             have hks3 : k + 3 < s.size := by omega
             have hk3z : (k : Int) + 3 < (n : Int) := by omega
             have hk2z : (k : Int) + 2 < (n : Int) := by omega
             obtain ⟨a, ha⟩ : ∃ a, s[k + 2]'hks2 = a := ⟨_, rfl⟩
             obtain ⟨b, hb⟩ : ∃ b, s[k + 3]'hks3 = b := ⟨_, rfl⟩
             have hga : s.data.toList.getD (k + 1 + 1) 0 = a := (getd s (k + 2) hks2).trans ha
             have hgb : s.data.toList.getD (k + 1 + 1 + 1) 0 = b := (getd s (k + 3) hks3).trans hb
             have HDY := hid (HDX.out.trans (denX_at (k := k + 1 + 1) (by rw [HLEN.out]; omega) hga hgb))
             clear hga hgb
             obtain ⟨x1, hx1⟩ : ∃ x, hexV a = x := ⟨_, rfl⟩
             obtain ⟨x2, hx2⟩ : ∃ x, hexV b = x := ⟨_, rfl⟩
             rw [hx1, hx2] at HDY
             have HX1 := hid hx1
             have HX2 := hid hx2
             clear hx1 hx2
             by_cases g1 : x1 < 16
             ·have g1z : (x1 : Int) < 16 := by omega
              by_cases g2 : x2 < 16
              ·have g2z : (x2 : Int) < 16 := by omega
               obtain ⟨z, hz⟩ : ∃ z, 16 * x1 + x2 = z := ⟨_, rfl⟩
               have hzz : (x1 : Int) * 16 + (x2 : Int) = (z : Int) := by omega
               have hz256 : z < 256 := by omega
               obtain ⟨v, hv⟩ : ∃ v, UInt8.ofNat z = v := ⟨_, rfl⟩
               have HV : Hid (v.toNat = z) := hid (by rw [← hv, UInt8.toNat_ofNat']; omega)
               have HN := hid ((atD_next (acc := acc) (v := v) (m := 4) HKL.out H34.out (HDY.out.trans (by rw [if_pos ⟨g1, g2⟩, hz, hv])) (by decide)).symm.trans HR.out)
               have w2 : IntKind.i64.wrap ((k : Int) + 2) = (k : Int) + 2 := IntWalk.i64_in _ (by omega)
               have w3 : IntKind.i64.wrap ((k : Int) + 3) = (k : Int) + 3 := IntWalk.i64_in _ (by omega)
               have p2 : 0 ≤ (k : Int) + 2 := by omega
               have p3 : 0 ≤ (k : Int) + 3 := by omega
               have t2 : ((k : Int) + 2).toNat = k + 2 := by omega
               have t3 : ((k : Int) + 3).toNat = k + 3 := by omega
               have v1 : IntKind.i64.wrap ((x1 : Int) * 16) = (x1 : Int) * 16 := IntWalk.i64_in _ (by omega)
               have v2 : IntKind.i64.wrap (z : Int) = (z : Int) := IntWalk.i64_in _ (by omega)
               have v3 : IntKind.u8.wrap (z : Int) = (z : Int) := wrap8 (by omega) (by omega)
               clear hz hv HDY HDX HDA HDB
               obtain ⟨YS, hYS⟩ : ∃ YS, YS = acc.map encB := ⟨_, rfl⟩
               rw [← hYS] at hown
               have HYS := hid hYS
               clear hYS
               obtain ⟨al, hal⟩ : ∃ al, acc.length = al := ⟨_, rfl⟩
               have hal2 : al ≤ n := by omega
               rw [hal] at hown
               have HAL := hid hal
               have HAK : Hid (al ≤ k) := hid (by omega)
               clear hal hak
               have hHb := HB.out.size
               go_wp2_with (first
                | (go_at_call 41; refine (Good_q c true _ HP.out).mono ?_; rintro e w' ⟨rfl, rfl⟩)
                | (go_at_call 118; refine (value_x _ _ _ (by first | exact HX1 | exact HX2)).mono ?_; rintro e w' ⟨rfl, rfl⟩))
               go_region_law (first
                | (refine step_append_own rfl _ _ 47 rfl w.heap.size 5 i0 _ 1 1 Tryz.underlying47 hi hz0 hz1 hz2 rfl (by decide) _ _ _ rfl ((owns_drew hown).alloc _) ⟨wr.heap.size, 0, none⟩ 1 1 [.int .u8 (z : Int)] rfl rfl ?c1 ?c2 ?c3 ?c4 ?c5 ?_; (case c1 => exact cells_new wr.drew _ _); (case c2 => exact one_one _); (case c3 => (unfold maxLen; omega)); (case c4 => omega); (case c5 => (simp; omega)); intro v' w2 hown' hgrow hnil)
                | (go_simp; go_at_call 118; refine (value_x _ _ _ (by first | exact HX1 | exact HX2)).mono ?_; rintro e w' ⟨rfl, rfl⟩))
               all_goals
                have HW2 := hid hown'
                have HG2 := hid hgrow
                have HOy := hid hown
                clear hown' hgrow hown hnil
                go_wp2
                go_roundw
                case measure => simp [intOf]; omega
                case rel =>
                 refine ⟨k + 4, acc ++ [v], by omega, by rw [List.length_append, HAL.out]; show al + 1 ≤ _; have := HAK.out; omega, by go_num, ?_, ?_, HN⟩
                 ·rw [map_snoc, List.length_append, HAL.out, ← HYS.out, HV.out]; exact HW2.out
                 ·refine (HB.out.drew.alloc HB.out.size _).grown HG2.out (by have := HB.out.size; simp; omega) ?_
                  intro q hq
                  exact (HOy.out.lt q hq).1
              ·have g2z : ¬ (x2 : Int) < 16 := by omega
               have HE := hid (HR.out.symm.trans (atD_bad (acc := acc) HKL.out H34.out (by rw [HDY.out, if_neg (fun e => g2 e.2)])))
               clear HDY HDX HDA HDB
               go_wp2_with (first | (go_at_call 41; refine (Good_q c true _ HP.out).mono ?_; rintro e w' ⟨rfl, rfl⟩) | (go_at_call 118; refine (value_x _ _ _ (by first | exact HX1 | exact HX2)).mono ?_; rintro e w' ⟨rfl, rfl⟩))
               go_ret3
               exact ⟨ret_sib (bytes_ext (by rw [← HOUT.out.1, HE.out]; rfl)) (by rw [← HOUT.out.2.1, HE.out]; rfl) (by rw [← HOUT.out.2.2, HE.out]; rfl), HB.out⟩
             ·have g1z : ¬ (x1 : Int) < 16 := by omega
              have HE := hid (HR.out.symm.trans (atD_bad (acc := acc) HKL.out H34.out (by rw [HDY.out, if_neg (fun e => g1 e.1)])))
              clear HDY HDX HDA HDB
              go_wp2_with (first | (go_at_call 41; refine (Good_q c true _ HP.out).mono ?_; rintro e w' ⟨rfl, rfl⟩) | (go_at_call 118; refine (value_x _ _ _ (by first | exact HX1 | exact HX2)).mono ?_; rintro e w' ⟨rfl, rfl⟩))
              go_ret3
              exact ⟨ret_sib (bytes_ext (by rw [← HOUT.out.1, HE.out]; rfl)) (by rw [← HOUT.out.2.1, HE.out]; rfl) (by rw [← HOUT.out.2.2, HE.out]; rfl), HB.out⟩
            ·have hk3z : ¬ (k : Int) + 3 < (n : Int) := by omega
             have HE := hid (HR.out.symm.trans (atD_bad (acc := acc) HKL.out H34.out (by rw [HDX.out, denX_short (by rw [HLEN.out]; omega)])))
             clear HDX HDA HDB
             go_wp2_with (first | (go_at_call 41; refine (Good_q c true _ HP.out).mono ?_; rintro e w' ⟨rfl, rfl⟩))
             go_ret3
             exact ⟨ret_sib (bytes_ext (by rw [← HOUT.out.1, HE.out]; rfl)) (by rw [← HOUT.out.2.1, HE.out]; rfl) (by rw [← HOUT.out.2.2, HE.out]; rfl), HB.out⟩
           ·have d120 : ((d.toNat : Int) == 120) = false := by rw [isC_beq 120 d 120 rfl]; exact Bool.eq_false_iff.2 (fun e => e120 (isC_iff.1 e))
            have HE := hid (HR.out.symm.trans (atD_bad (acc := acc) HKL.out H34.out (by rw [HDA.out, if_neg nn, if_neg e110, if_neg e116, if_neg e120])))
            clear e34 e92 e110 e116 e120 nn
            go_wp2_with (first | (go_at_call 41; refine (Good_q c true _ HP.out).mono ?_; rintro e w' ⟨rfl, rfl⟩))
            go_ret3
            exact ⟨ret_sib (bytes_ext (by rw [← HOUT.out.1, HE.out]; rfl)) (by rw [← HOUT.out.2.1, HE.out]; rfl) (by rw [← HOUT.out.2.2, HE.out]; rfl), HB.out⟩
      ·have hk1z : (n : Int) ≤ (k : Int) + 1 := by omega
       have hk1z' : ¬ (k : Int) + 1 < (n : Int) := by omega
       have HE := hid (HR.out.symm.trans (atD_bad (acc := acc) HKL.out H34.out (by rw [HDB.out, List.drop_of_length_le (by rw [HLEN.out, hn]; omega)]; rfl)))
       go_wp2_with (first | (go_at_call 41; refine (Good_q c true _ HP.out).mono ?_; rintro e w' ⟨rfl, rfl⟩))
       go_ret3
       exact ⟨ret_sib (bytes_ext (by rw [← HOUT.out.1, HE.out]; rfl)) (by rw [← HOUT.out.2.1, HE.out]; rfl) (by rw [← HOUT.out.2.2, HE.out]; rfl), HB.out⟩
     ·have m92 : ((c.toNat : Int) == 92) = false := by rw [isC_beq 92 c 92 rfl]; exact Bool.eq_false_iff.2 (fun e => h92 (isC_iff.1 e))
      have n92 : ((c.toNat : Int) != 92) = true := by rw [isC_bne 92 c 92 rfl, Bool.eq_false_iff.2 (fun e => h92 (isC_iff.1 e))]; rfl
      have HN := hid ((atD_next (acc := acc) HKL.out (by rw [HG.out]; exact h34) (den_one HKL.out HG.out HP.out h92) (by decide)).symm.trans HR.out)
      clear h34 h92
      obtain ⟨YS, hYS⟩ : ∃ YS, YS = acc.map encB := ⟨_, rfl⟩
      rw [← hYS] at hown
      have HYS := hid hYS
      clear hYS
      obtain ⟨al, hal⟩ : ∃ al, acc.length = al := ⟨_, rfl⟩
      have hal2 : al ≤ n := by omega
      rw [hal] at hown
      have HAL := hid hal
      have HAK : Hid (al ≤ k) := hid (by omega)
      clear hal hak
      go_wp2_with (first
       | (go_at_call 41; refine (Good_q c true _ HP.out).mono ?_; rintro e w' ⟨rfl, rfl⟩)
       | (at_builtin; refine wpList_append_own _ rfl _ _ 47 rfl w.heap.size 5 i0 _ 1 1 Tryz.underlying47 hi hz0 hz1 hz2 rfl (by decide) _ _ _ rfl (hown.alloc _) ⟨wr.heap.size, 0, none⟩ 1 1 [.int .u8 (c.toNat : Int)] rfl rfl ?c1 ?c2 ?c3 ?c4 ?c5 ?_))
      case c1 => exact cells_new wr _ _
      case c2 => exact one_one _
      case c3 => unfold maxLen; omega
      case c4 => omega
      case c5 => have := HB.out.size; simp; omega
      ·intro v' w2 hown' hgrow hnil
       have HW2 := hid hown'
       have HG2 := hid hgrow
       have HOy := hid hown
       clear hown' hgrow hown hnil
       go_wp2
       go_roundw
       case measure => simp [intOf]; omega
       case rel =>
        refine ⟨k + 1, acc ++ [c], by omega, by rw [List.length_append, HAL.out]; show al + 1 ≤ _; have := HAK.out; omega, by go_num, ?_, ?_, HN⟩
        ·rw [map_snoc, List.length_append, HAL.out, ← HYS.out]; exact HW2.out
        ·refine (HB.out.alloc HB.out.size _).grown HG2.out (by have := HB.out.size; simp; omega) ?_
         intro q hq
         exact (HOy.out.lt q hq).1
   ·have HP := hid hgd
    have HE := hid (HR.out.symm.trans (atD_bad (acc := acc) HKL.out (by rw [HG.out]; exact (den_bad HKL.out HG.out hgd).2) (den_bad HKL.out HG.out hgd).1))
    clear hgd
    go_wp2_with (go_at_call 41; refine (Good_q c false _ HP.out).mono ?_; rintro e w' ⟨rfl, rfl⟩)
    go_ret3
    exact ⟨ret_sib (bytes_ext (by rw [← HOUT.out.1, HE.out]; rfl)) (by rw [← HOUT.out.2.1, HE.out]; rfl) (by rw [← HOUT.out.2.2, HE.out]; rfl), HB.out⟩
  ·obtain rfl : k = n := by omega
   have HE := hid (HR.out.symm.trans (atD_out (acc := acc) (by rw [HLEN.out, hn]; exact Nat.le_refl _)))
   go_wp2
   go_ret3
   exact ⟨ret_sib (bytes_ext (by rw [← HOUT.out.1, HE.out]; rfl)) (by rw [← HOUT.out.2.1, HE.out]; rfl) (by rw [← HOUT.out.2.2, HE.out]; rfl), HB.out⟩
end
end Go.Proofs.YtgdejjkiiaodkaaGreatDoor
