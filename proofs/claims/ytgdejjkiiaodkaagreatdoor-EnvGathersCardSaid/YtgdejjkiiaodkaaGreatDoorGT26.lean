/- RefQuote -/
import Derived.Test.YtgdejjkiiaodkaaGreatDoorGT22
import Derived.Test.YtgdejjkiiaodkaaGreatDoorGT25
set_option linter.unusedVariables false
set_option linter.unusedSimpArgs false
set_option maxRecDepth 100000
set_option maxHeartbeats 16000000
open Go.Lib (hid)
namespace Go.Proofs.YtgdejjkiiaodkaaGreatDoor
section
open Go.RowKit Go.Sort
open Q6
theorem dg_int (u : Nat) (h : u < 16) : ((dg u).toNat : Int) = if u < 10 then 48 + (u : Int) else 87 + (u : Int) := by
 rw [dg_nat u h]
 split <;> omega
theorem digit_any (u : Nat) (w : World) (h : u < 16) :
  Calls Tryz.prog 42 #[.int .u8 (u : Int)] w fun e w' => e = .returned (.int .u8 ((dg u).toNat : Int)) ∧ w = w' := by
 have HD := hid (dg_int u h)
 by_cases h1 : u < 10
 ·rw [if_pos h1] at HD
  have hw : IntKind.u8.wrap (48 + (u : Int)) = 48 + (u : Int) := wrap8 (by omega) (by omega)
  have h1z : (u : Int) < 10 := by omega
  go_enter Tryz.func42, Tryz.ntmps42
  go_wp2
  go_ret
  exact ⟨ret_int HD.out.symm, rfl⟩
 ·rw [if_neg h1] at HD
  have hw : IntKind.u8.wrap (87 + (u : Int)) = 87 + (u : Int) := wrap8 (by omega) (by omega)
  have h1z : ¬ (u : Int) < 10 := by omega
  go_enter Tryz.func42, Tryz.ntmps42
  go_wp2
  go_ret
  exact ⟨ret_int HD.out.symm, rfl⟩
theorem digit_x (u : Nat) (c : UInt8) (w : World) (h : Hid (u < 16 ∧ dg u = c)) :
  Calls Tryz.prog 42 #[.int .u8 (u : Int)] w fun e w' => e = .returned (.int .u8 (c.toNat : Int)) ∧ w = w' := by
 rw [← h.out.2]; exact digit_any u w h.out.1
theorem own_one (w : World) (x : Value) (e : TypeId) : (w.alloc (.cells #[x] e)).ownsRow w.heap.size e 1 (.slice (some ⟨w.heap.size, 0, none⟩) 1 1) 1 [x] := by
 refine ⟨rfl, .inr ⟨w.heap.size, 1, #[x], rfl, Nat.le_refl _, ?_, Nat.le_refl _, by unfold maxLen; decide, rfl, rfl⟩⟩
 show (w.heap.push _)[w.heap.size]? = _
 simp
theorem RDouble_any (s : ByteArray) (w : World) (hs : s.size ≤ 1000000) (D : ByteArray) (hD : dblL s.data.toList = D.data.toList) :
  Calls Tryz.prog 26 #[.string s] w fun e w' => e = .returned (.string D) ∧ Below w.heap.size w w' := by
 obtain ⟨i0, hi, hz0, hz1, hz2⟩ := infoB
 have HD := hid hD
 clear hD
 obtain ⟨n, hn⟩ : ∃ n, s.size = n := ⟨_, rfl⟩
 have HLEN : Hid (s.data.toList.length = n) := hid ((len_eq s).trans hn)
 have hsn : n ≤ 1000000 := by omega
 have HO1 := hid (own_one w (.int .u8 34) 5)
 have HB1 := hid ((Below.refl _ w).alloc (Nat.le_refl _) (.cells #[.int .u8 34] 5))
 go_enter Tryz.func26, Tryz.ntmps26
 go_wp2
 go_loopw [3, 4] (fun sv si wr => ∃ k : Nat, k ≤ n ∧ si = .int .i64 (k : Int) ∧ wr.ownsRow w.heap.size 5 1 sv (accL s.data.toList k).length ((accL s.data.toList k).map encB) ∧ Below w.heap.size w wr ∧ sv ≠ .slice none 0 0) (fun _ si _ => n - (intOf si).toNat)
 case atStart => exact ⟨0, Nat.zero_le _, rfl, HO1.out, HB1.out, by simp⟩
 case round =>
  clear HO1 HB1
  obtain ⟨k, hk, rfl, hown, hbel, hnn⟩ := hrel
  have HNN := hid hnn
  have HB := hid hbel
  clear hbel hnn
  have hal := accL_len s.data.toList k
  rw [HLEN.out] at hal
  by_cases hlt : k < n
  ·have hks : k < s.size := by omega
   have hkl : k < s.data.toList.length := by rw [HLEN.out]; exact hlt
   have hskz : (k : Int) < (n : Int) := by omega
   have HX := hid (accL_snoc hkl)
   obtain ⟨c, hc⟩ : ∃ c, s[k]'hks = c := ⟨_, rfl⟩
   rw [getd s k hks, hc] at HX
   clear hkl
   by_cases h34 : c = 34
   ·have m34 : ((c.toNat : Int) == 34) = true := by rw [isC_beq 34 c 34 rfl]; exact isC_iff.2 h34
    have HE : Hid (esc c = [92, c]) := hid (by unfold esc; rw [if_pos (.inl h34)])
    clear h34
    obtain ⟨YS, hYS⟩ : ∃ YS, YS = (accL s.data.toList k).map encB := ⟨_, rfl⟩
    rw [← hYS] at hown
    have HYS := hid hYS
    obtain ⟨al, hal2⟩ : ∃ al, (accL s.data.toList k).length = al := ⟨_, rfl⟩
    rw [hal2] at hown hal
    have HAL := hid hal2
    clear hYS hal2
    go_wp2_with (first
     | (at_builtin; refine wpList_append_own _ rfl _ _ 47 rfl w.heap.size 5 i0 _ 1 1 Tryz.underlying47 hi hz0 hz1 hz2 rfl (by decide) _ _ _ rfl (hown.alloc _) ⟨wr.heap.size, 0, none⟩ 2 2 [.int .u8 92, .int .u8 (c.toNat : Int)] rfl rfl ?c1 ?c2 ?c3 ?c4 ?c5 ?_))
    case c1 => exact cells_new wr _ _
    case c2 => exact two_one _ _
    case c3 => unfold maxLen; omega
    case c4 => omega
    case c5 => have := HB.out.size; simp; omega
    ·intro v' w2 hown' hgrow hnil
     have HW2 := hid hown'
     have HG2 := hid hgrow
     have HNil := hid hnil
     have HOy := hid hown
     clear hown' hgrow hown hnil hal
     go_wp2
     go_roundw
     case measure => simp [intOf]; omega
     case rel =>
      refine ⟨k + 1, by omega, by go_num, ?_, ?_, fun e => by first | exact HNil.out e | exact HNN.out (HNil.out.1 e).1⟩
      ·rw [HX.out, HE.out, List.map_append, List.length_append, HAL.out, ← HYS.out]; exact HW2.out
      ·refine (HB.out.alloc HB.out.size _).grown HG2.out (by have := HB.out.size; simp; omega) ?_
       intro q hq
       exact (HOy.out.lt q hq).1
   have m34 : ((c.toNat : Int) == 34) = false := by rw [isC_beq 34 c 34 rfl]; exact Bool.eq_false_iff.2 (fun e => h34 (isC_iff.1 e))
   by_cases h92 : c = 92
   ·have m92 : ((c.toNat : Int) == 92) = true := by rw [isC_beq 92 c 92 rfl]; exact isC_iff.2 h92
    have HE : Hid (esc c = [92, c]) := hid (by unfold esc; rw [if_pos (.inr h92)])
    clear h34 h92
    obtain ⟨YS, hYS⟩ : ∃ YS, YS = (accL s.data.toList k).map encB := ⟨_, rfl⟩
    rw [← hYS] at hown
    have HYS := hid hYS
    obtain ⟨al, hal2⟩ : ∃ al, (accL s.data.toList k).length = al := ⟨_, rfl⟩
    rw [hal2] at hown hal
    have HAL := hid hal2
    clear hYS hal2
    go_wp2_with (first
     | (at_builtin; refine wpList_append_own _ rfl _ _ 47 rfl w.heap.size 5 i0 _ 1 1 Tryz.underlying47 hi hz0 hz1 hz2 rfl (by decide) _ _ _ rfl (hown.alloc _) ⟨wr.heap.size, 0, none⟩ 2 2 [.int .u8 92, .int .u8 (c.toNat : Int)] rfl rfl ?c1 ?c2 ?c3 ?c4 ?c5 ?_))
    case c1 => exact cells_new wr _ _
    case c2 => exact two_one _ _
    case c3 => unfold maxLen; omega
    case c4 => omega
    case c5 => have := HB.out.size; simp; omega
    ·intro v' w2 hown' hgrow hnil
     have HW2 := hid hown'
     have HG2 := hid hgrow
     have HNil := hid hnil
     have HOy := hid hown
     clear hown' hgrow hown hnil hal
     go_wp2
     go_roundw
     case measure => simp [intOf]; omega
     case rel =>
      refine ⟨k + 1, by omega, by go_num, ?_, ?_, fun e => by first | exact HNil.out e | exact HNN.out (HNil.out.1 e).1⟩
      ·rw [HX.out, HE.out, List.map_append, List.length_append, HAL.out, ← HYS.out]; exact HW2.out
      ·refine (HB.out.alloc HB.out.size _).grown HG2.out (by have := HB.out.size; simp; omega) ?_
       intro q hq
       exact (HOy.out.lt q hq).1
   have m92 : ((c.toNat : Int) == 92) = false := by rw [isC_beq 92 c 92 rfl]; exact Bool.eq_false_iff.2 (fun e => h92 (isC_iff.1 e))
   have hno : ¬ (c = 34 ∨ c = 92) := fun e => e.elim h34 h92
   by_cases h10 : c = 10
   ·have m10 : ((c.toNat : Int) == 10) = true := by rw [isC_beq 10 c 10 rfl]; exact isC_iff.2 h10
    have HE : Hid (esc c = [92, 110]) := hid (by subst h10; rfl)
    clear h34 h92 h10 hno
    obtain ⟨YS, hYS⟩ : ∃ YS, YS = (accL s.data.toList k).map encB := ⟨_, rfl⟩
    rw [← hYS] at hown
    have HYS := hid hYS
    obtain ⟨al, hal2⟩ : ∃ al, (accL s.data.toList k).length = al := ⟨_, rfl⟩
    rw [hal2] at hown hal
    have HAL := hid hal2
    clear hYS hal2
    go_wp2_with (first
     | (at_builtin; refine wpList_append_own _ rfl _ _ 47 rfl w.heap.size 5 i0 _ 1 1 Tryz.underlying47 hi hz0 hz1 hz2 rfl (by decide) _ _ _ rfl (hown.alloc _) ⟨wr.heap.size, 0, none⟩ 2 2 [.int .u8 92, .int .u8 110] rfl rfl ?c1 ?c2 ?c3 ?c4 ?c5 ?_))
    case c1 => exact cells_new wr _ _
    case c2 => exact two_one _ _
    case c3 => unfold maxLen; omega
    case c4 => omega
    case c5 => have := HB.out.size; simp; omega
    ·intro v' w2 hown' hgrow hnil
     have HW2 := hid hown'
     have HG2 := hid hgrow
     have HNil := hid hnil
     have HOy := hid hown
     clear hown' hgrow hown hnil hal
     go_wp2
     go_roundw
     case measure => simp [intOf]; omega
     case rel =>
      refine ⟨k + 1, by omega, by go_num, ?_, ?_, fun e => by first | exact HNil.out e | exact HNN.out (HNil.out.1 e).1⟩
      ·rw [HX.out, HE.out, List.map_append, List.length_append, HAL.out, ← HYS.out]; exact HW2.out
      ·refine (HB.out.alloc HB.out.size _).grown HG2.out (by have := HB.out.size; simp; omega) ?_
       intro q hq
       exact (HOy.out.lt q hq).1
   have m10 : ((c.toNat : Int) == 10) = false := by rw [isC_beq 10 c 10 rfl]; exact Bool.eq_false_iff.2 (fun e => h10 (isC_iff.1 e))
   by_cases h9 : c = 9
   ·have m9 : ((c.toNat : Int) == 9) = true := by rw [isC_beq 9 c 9 rfl]; exact isC_iff.2 h9
    have HE : Hid (esc c = [92, 116]) := hid (by subst h9; rfl)
    clear h34 h92 h10 h9 hno
    obtain ⟨YS, hYS⟩ : ∃ YS, YS = (accL s.data.toList k).map encB := ⟨_, rfl⟩
    rw [← hYS] at hown
    have HYS := hid hYS
    obtain ⟨al, hal2⟩ : ∃ al, (accL s.data.toList k).length = al := ⟨_, rfl⟩
    rw [hal2] at hown hal
    have HAL := hid hal2
    clear hYS hal2
    go_wp2_with (first
     | (at_builtin; refine wpList_append_own _ rfl _ _ 47 rfl w.heap.size 5 i0 _ 1 1 Tryz.underlying47 hi hz0 hz1 hz2 rfl (by decide) _ _ _ rfl (hown.alloc _) ⟨wr.heap.size, 0, none⟩ 2 2 [.int .u8 92, .int .u8 116] rfl rfl ?c1 ?c2 ?c3 ?c4 ?c5 ?_))
    case c1 => exact cells_new wr _ _
    case c2 => exact two_one _ _
    case c3 => unfold maxLen; omega
    case c4 => omega
    case c5 => have := HB.out.size; simp; omega
    ·intro v' w2 hown' hgrow hnil
     have HW2 := hid hown'
     have HG2 := hid hgrow
     have HNil := hid hnil
     have HOy := hid hown
     clear hown' hgrow hown hnil hal
     go_wp2
     go_roundw
     case measure => simp [intOf]; omega
     case rel =>
      refine ⟨k + 1, by omega, by go_num, ?_, ?_, fun e => by first | exact HNil.out e | exact HNN.out (HNil.out.1 e).1⟩
      ·rw [HX.out, HE.out, List.map_append, List.length_append, HAL.out, ← HYS.out]; exact HW2.out
      ·refine (HB.out.alloc HB.out.size _).grown HG2.out (by have := HB.out.size; simp; omega) ?_
       intro q hq
       exact (HOy.out.lt q hq).1
   have m9 : ((c.toNat : Int) == 9) = false := by rw [isC_beq 9 c 9 rfl]; exact Bool.eq_false_iff.2 (fun e => h9 (isC_iff.1 e))
   rcases Bool.eq_false_or_eq_true (good c) with hg | hg
   ·have HP := hid hg
    have HE : Hid (esc c = [c]) := hid (by unfold esc; rw [if_neg hno, if_neg h10, if_neg h9, if_pos hg])
    clear h34 h92 h10 h9 hno hg
    obtain ⟨YS, hYS⟩ : ∃ YS, YS = (accL s.data.toList k).map encB := ⟨_, rfl⟩
    rw [← hYS] at hown
    have HYS := hid hYS
    obtain ⟨al, hal2⟩ : ∃ al, (accL s.data.toList k).length = al := ⟨_, rfl⟩
    rw [hal2] at hown hal
    have HAL := hid hal2
    clear hYS hal2
    go_wp2_with (first
     | (go_at_call 41; refine (Good_q c true _ HP.out).mono ?_; rintro e w' ⟨rfl, rfl⟩)
     | (at_builtin; refine wpList_append_own _ rfl _ _ 47 rfl w.heap.size 5 i0 _ 1 1 Tryz.underlying47 hi hz0 hz1 hz2 rfl (by decide) _ _ _ rfl (hown.alloc _) ⟨wr.heap.size, 0, none⟩ 1 1 [.int .u8 (c.toNat : Int)] rfl rfl ?c1 ?c2 ?c3 ?c4 ?c5 ?_))
    case c1 => exact cells_new wr _ _
    case c2 => exact one_one _
    case c3 => unfold maxLen; omega
    case c4 => omega
    case c5 => have := HB.out.size; simp; omega
    ·intro v' w2 hown' hgrow hnil
     have HW2 := hid hown'
     have HG2 := hid hgrow
     have HNil := hid hnil
     have HOy := hid hown
     clear hown' hgrow hown hnil hal
     go_wp2
     go_roundw
     case measure => simp [intOf]; omega
     case rel =>
      refine ⟨k + 1, by omega, by go_num, ?_, ?_, fun e => by first | exact HNil.out e | exact HNN.out (HNil.out.1 e).1⟩
      ·rw [HX.out, HE.out, List.map_append, List.length_append, HAL.out, ← HYS.out]; exact HW2.out
      ·refine (HB.out.alloc HB.out.size _).grown HG2.out (by have := HB.out.size; simp; omega) ?_
       intro q hq
       exact (HOy.out.lt q hq).1
   ·have HP := hid hg
    have HE : Hid (esc c = [92, 120, dg (c.toNat / 16), dg (c.toNat % 16)]) := hid (by unfold esc; rw [if_neg hno, if_neg h10, if_neg h9, if_neg (by rw [hg]; decide)])
    have q0 := c.toNat_lt
    obtain ⟨m, hm⟩ : ∃ m, c.toNat = m := ⟨_, rfl⟩
    have HGc : Hid (∀ w0, Calls Tryz.prog 41 #[.int .u8 (m : Int)] w0 fun e w' => e = .returned (.bool false) ∧ w0 = w') := hid (fun w0 => by rw [← hm]; exact Good_q c false w0 HP.out)
    rw [hm] at q0 HE m34 m92 m10 m9
    obtain ⟨u, hu⟩ : ∃ u, m / 16 = u := ⟨_, rfl⟩
    obtain ⟨lo, hl⟩ : ∃ lo, m % 16 = lo := ⟨_, rfl⟩
    have f1 : (m : Int) / 16 = (u : Int) := by omega
    have f2 : (m : Int) % 16 = (lo : Int) := by omega
    have f3 : (m : Int).tdiv 16 = (u : Int) := by rw [Int.tdiv_eq_ediv_of_nonneg (by omega)]; omega
    have f4 : (m : Int).tmod 16 = (lo : Int) := by rw [Int.tmod_eq_emod_of_nonneg (by omega)]; omega
    have f5 : IntKind.u8.wrap (u : Int) = (u : Int) := wrap8 (by omega) (by omega)
    have f6 : IntKind.u8.wrap (lo : Int) = (lo : Int) := wrap8 (by omega) (by omega)
    rw [hu, hl] at HE
    obtain ⟨cu, hcu⟩ : ∃ cu, dg u = cu := ⟨_, rfl⟩
    obtain ⟨cl, hcl⟩ : ∃ cl, dg lo = cl := ⟨_, rfl⟩
    have HU1 : Hid (u < 16 ∧ dg u = cu) := hid ⟨by omega, hcu⟩
    have HU2 : Hid (lo < 16 ∧ dg lo = cl) := hid ⟨by omega, hcl⟩
    rw [hcu, hcl] at HE
    clear h34 h92 h10 h9 hno hg hu hl hcu hcl
    obtain ⟨YS, hYS⟩ : ∃ YS, YS = (accL s.data.toList k).map encB := ⟨_, rfl⟩
    rw [← hYS] at hown
    have HYS := hid hYS
    obtain ⟨al, hal2⟩ : ∃ al, (accL s.data.toList k).length = al := ⟨_, rfl⟩
    rw [hal2] at hown hal
    have HAL := hid hal2
    clear hYS hal2
    go_wp2_with (first
     | (go_at_call 41; refine (HGc.out _).mono ?_; rintro e w' ⟨rfl, rfl⟩)
     | (go_at_call 42; refine (digit_x _ _ _ (by first | exact HU1 | exact HU2)).mono ?_; rintro e w' ⟨rfl, rfl⟩)
     | (at_builtin; refine wpList_append_own _ rfl _ _ 47 rfl w.heap.size 5 i0 _ 1 1 Tryz.underlying47 hi hz0 hz1 hz2 rfl (by decide) _ _ _ rfl (hown.alloc _) ⟨wr.heap.size, 0, none⟩ 4 4 [.int .u8 92, .int .u8 120, .int .u8 (cu.toNat : Int), .int .u8 (cl.toNat : Int)] rfl rfl ?c1 ?c2 ?c3 ?c4 ?c5 ?_))
    case c1 => exact cells_new wr _ _
    case c2 => exact four_one _ _ _ _
    case c3 => unfold maxLen; omega
    case c4 => omega
    case c5 => have := HB.out.size; simp; omega
    ·intro v' w2 hown' hgrow hnil
     have HW2 := hid hown'
     have HG2 := hid hgrow
     have HNil := hid hnil
     have HOy := hid hown
     clear hown' hgrow hown hnil hal
     go_wp2
     go_roundw
     case measure => simp [intOf]; omega
     case rel =>
      refine ⟨k + 1, by omega, by go_num, ?_, ?_, fun e => by first | exact HNil.out e | exact HNN.out (HNil.out.1 e).1⟩
      ·rw [HX.out, HE.out, List.map_append, List.length_append, HAL.out, ← HYS.out]; exact HW2.out
      ·refine (HB.out.alloc HB.out.size _).grown HG2.out (by have := HB.out.size; simp; omega) ?_
       intro q hq
       exact (HOy.out.lt q hq).1
  ·obtain rfl : k = n := by omega
   have HE := hid (accL_end (l := s.data.toList) (k := k) (by rw [HLEN.out]; exact Nat.le_refl _))
   have HO := hid hown
   obtain ⟨YS, hYS⟩ : ∃ YS, YS = (accL s.data.toList k).map encB := ⟨_, rfl⟩
   rw [← hYS] at hown
   have HYS := hid hYS
   obtain ⟨al, hal2⟩ : ∃ al, (accL s.data.toList k).length = al := ⟨_, rfl⟩
   rw [hal2] at hown hal
   have HAL := hid hal2
   clear hYS hal2
   have hHb := HB.out.size
   go_wp2_with (at_builtin; refine wpList_append_own _ rfl _ _ 47 rfl w.heap.size 5 i0 _ 1 1 Tryz.underlying47 hi hz0 hz1 hz2 rfl (by decide) _ _ _ rfl (hown.alloc _) ⟨wr.heap.size, 0, none⟩ 1 1 [.int .u8 34] rfl rfl ?c1 ?c2 ?c3 ?c4 ?c5 ?_)
   case c1 => exact cells_new wr _ _
   case c2 => exact one_one _
   case c3 => unfold maxLen; omega
   case c4 => omega
   case c5 => have := HB.out.size; simp; omega
   intro v4 w4 hown4 hgrow4 hnil4
   have HB4 : Hid (Below w.heap.size w w4) := hid ((HB.out.alloc HB.out.size _).grown hgrow4 (by simp; omega) (by intro q hq; exact (HO.out.lt q hq).1))
   have hown5 : w4.ownsRow w.heap.size 5 1 v4 (al + 1) ((dblL s.data.toList).map encB) := by
    rw [← HE.out, map_snoc, ← HYS.out]; exact hown4
   obtain ⟨g, cap, hv, hcv⟩ := own_conv hown5 (fun e => by first | exact hnil4 e | exact absurd (hnil4.1 e).2 (by decide))
   subst hv
   have hDD : (⟨(dblL s.data.toList).toArray⟩ : ByteArray) = D := mk_of HD.out
   rw [hDD] at hcv
   clear hown hown4 hown5 hgrow4 hnil4 hDD hal
   go_wp2
   go_ret
   exact ⟨rfl, HB4.out⟩
end
end Go.Proofs.YtgdejjkiiaodkaaGreatDoor
