/- QuoAppEsc -/
import Derived.Test.YtgdejjkiiaodkaaGreatDoorOT19
import Derived.Test.YtgdejjkiiaodkaaGreatDoorOT22
set_option linter.unusedVariables false
set_option linter.unusedSimpArgs false
set_option maxRecDepth 100000
set_option maxHeartbeats 16000000
open Go.Lib (hid)
namespace Go.Proofs.YtgdejjkiiaodkaaGreatDoor
section
open Go.RowKit Go.Sort
open Q6
theorem dig_at (x : Nat) (h : x < 16) : (⟨#[48, 49, 50, 51, 52, 53, 54, 55, 56, 57, 97, 98, 99, 100, 101, 102]⟩ : ByteArray)[x]'h = dg x := by
 have hx : x = 0 ∨ x = 1 ∨ x = 2 ∨ x = 3 ∨ x = 4 ∨ x = 5 ∨ x = 6 ∨ x = 7 ∨ x = 8 ∨ x = 9 ∨ x = 10 ∨ x = 11 ∨ x = 12 ∨ x = 13 ∨ x = 14 ∨ x = 15 := by omega
 rcases hx with rfl | rfl | rfl | rfl | rfl | rfl | rfl | rfl | rfl | rfl | rfl | rfl | rfl | rfl | rfl | rfl <;> rfl
theorem u8_and15 : ∀ x : Fin 256, bits .and .u8 (x.val : Int) 15 = ((x.val % 16 : Nat) : Int) := by decide +kernel
theorem esc_own {w w' : World} {base n m : Nat} {v v' : Value} {l E : List UInt8} {ys : List Value} (hown : w.ownsRow base 5 1 v n (l.map encB)) (hw : w'.ownsRow base 5 1 v' (n + m) (l.map encB ++ ys)) (hE : E.map encB = ys) (hm : E.length = m) :
  w'.ownsRow base 5 1 v' (l ++ E).length ((l ++ E).map encB) := by
 rw [List.map_append, hE, List.length_append, own_len hown, hm]; exact hw
theorem appesc_quo (v : Value) (l : List UInt8) (n : Nat) (c : UInt8) (base : Nat) (w : World) (hown : w.ownsRow base 5 1 v n (l.map encB)) (hb : base ≤ w.heap.size) (hn : n ≤ 8000000) (h1 : c = 34 ∨ c = 92) :
  Calls Tryz.prog 40 #[v, .int .u8 c.toNat] w fun e w' => ∃ v', e = .returned v' ∧ w'.ownsRow base 5 1 v' (l ++ esc c).length ((l ++ esc c).map encB) ∧ Below base w w' ∧ v' ≠ .slice none 0 0 := by
 obtain ⟨i0, hi, hz0, hz1, hz2⟩ := infoB
 have HE : Hid (esc c = [92, c]) := hid (by unfold esc; rw [if_pos h1])
 rcases Bool.eq_false_or_eq_true (isC 34 c) with h34 | h34
 ·have m34 : ((c.toNat : Int) == 34) = true := by rw [isC_beq 34 c 34 rfl]; exact h34
  obtain ⟨YS, hYS⟩ : ∃ YS, YS = l.map encB := ⟨_, rfl⟩
  have HOl := hid hown
  rw [← hYS] at hown
  have HYS := hid hYS
  clear h1 h34 hYS
  go_enter Tryz.func40, Tryz.ntmps40
  go_wp2_with (first | (at_builtin; refine wpList_append_own _ rfl _ _ 47 rfl base 5 i0 _ 1 1 Tryz.underlying47 hi hz0 hz1 hz2 rfl (by decide) _ _ _ rfl (hown.alloc _) ⟨w.heap.size, 0, none⟩ 2 2 [.int .u8 92, .int .u8 (c.toNat : Int)] rfl rfl ?c1 ?c2 ?c3 ?c4 ?c5 ?_))
  case c1 => exact cells_new w _ _
  case c2 => exact two_one _ _
  case c3 => unfold maxLen; omega
  case c4 => omega
  case c5 => simp; omega
  ·intro v' w2 hown' hgrow hnil
   have HW2 := hid hown'
   have HG2 := hid hgrow
   have HNil := hid hnil
   have HOy := hid hown
   clear hown' hgrow hown hnil
   go_wp2
   go_ret
   refine ⟨_, rfl, esc_own (m := 2) HOl.out (by rw [← HYS.out]; exact HW2.out) (by rw [HE.out]; rfl) (by rw [HE.out]; rfl), ?_, fun e => by first | exact HNil.out e | exact absurd (HNil.out.1 e).2 (by decide)⟩
   refine (((Below.refl base w).alloc hb _)).grown HG2.out (by simp; omega) ?_
   intro q hq
   exact (HOy.out.lt q hq).1
 ·have m34 : ((c.toNat : Int) == 34) = false := by rw [isC_beq 34 c 34 rfl]; exact h34
  have m92 : ((c.toNat : Int) == 92) = true := by rw [isC_beq 92 c 92 rfl]; exact isC_iff.2 (h1.resolve_left (fun e => by rw [isC_iff.2 e] at h34; cases h34))
  obtain ⟨YS, hYS⟩ : ∃ YS, YS = l.map encB := ⟨_, rfl⟩
  have HOl := hid hown
  rw [← hYS] at hown
  have HYS := hid hYS
  clear h1 h34 hYS
  go_enter Tryz.func40, Tryz.ntmps40
  go_wp2_with (first | (at_builtin; refine wpList_append_own _ rfl _ _ 47 rfl base 5 i0 _ 1 1 Tryz.underlying47 hi hz0 hz1 hz2 rfl (by decide) _ _ _ rfl (hown.alloc _) ⟨w.heap.size, 0, none⟩ 2 2 [.int .u8 92, .int .u8 (c.toNat : Int)] rfl rfl ?c1 ?c2 ?c3 ?c4 ?c5 ?_))
  case c1 => exact cells_new w _ _
  case c2 => exact two_one _ _
  case c3 => unfold maxLen; omega
  case c4 => omega
  case c5 => simp; omega
  ·intro v' w2 hown' hgrow hnil
   have HW2 := hid hown'
   have HG2 := hid hgrow
   have HNil := hid hnil
   have HOy := hid hown
   clear hown' hgrow hown hnil
   go_wp2
   go_ret
   refine ⟨_, rfl, esc_own (m := 2) HOl.out (by rw [← HYS.out]; exact HW2.out) (by rw [HE.out]; rfl) (by rw [HE.out]; rfl), ?_, fun e => by first | exact HNil.out e | exact absurd (HNil.out.1 e).2 (by decide)⟩
   refine (((Below.refl base w).alloc hb _)).grown HG2.out (by simp; omega) ?_
   intro q hq
   exact (HOy.out.lt q hq).1
theorem appesc_nl (v : Value) (l : List UInt8) (n : Nat) (c : UInt8) (base : Nat) (w : World) (hown : w.ownsRow base 5 1 v n (l.map encB)) (hb : base ≤ w.heap.size) (hn : n ≤ 8000000) (h1 : c = 10) :
  Calls Tryz.prog 40 #[v, .int .u8 c.toNat] w fun e w' => ∃ v', e = .returned v' ∧ w'.ownsRow base 5 1 v' (l ++ esc c).length ((l ++ esc c).map encB) ∧ Below base w w' ∧ v' ≠ .slice none 0 0 := by
 obtain ⟨i0, hi, hz0, hz1, hz2⟩ := infoB
 have HE : Hid (esc c = [92, 110]) := hid (by subst h1; rfl)
 have m34 : ((c.toNat : Int) == 34) = false := by rw [isC_beq 34 c 34 rfl]; exact Bool.eq_false_iff.2 (fun e => absurd (h1.symm.trans (isC_iff.1 e)) (by decide))
 have m92 : ((c.toNat : Int) == 92) = false := by rw [isC_beq 92 c 92 rfl]; exact Bool.eq_false_iff.2 (fun e => absurd (h1.symm.trans (isC_iff.1 e)) (by decide))
 have m10 : ((c.toNat : Int) == 10) = true := by rw [isC_beq 10 c 10 rfl]; exact isC_iff.2 h1
 obtain ⟨YS, hYS⟩ : ∃ YS, YS = l.map encB := ⟨_, rfl⟩
 have HOl := hid hown
 rw [← hYS] at hown
 have HYS := hid hYS
 clear h1 hYS
 go_enter Tryz.func40, Tryz.ntmps40
 go_wp2_with (first | (at_builtin; refine wpList_append_own _ rfl _ _ 47 rfl base 5 i0 _ 1 1 Tryz.underlying47 hi hz0 hz1 hz2 rfl (by decide) _ _ _ rfl (hown.alloc _) ⟨w.heap.size, 0, none⟩ 2 2 [.int .u8 92, .int .u8 110] rfl rfl ?c1 ?c2 ?c3 ?c4 ?c5 ?_))
 case c1 => exact cells_new w _ _
 case c2 => exact two_one _ _
 case c3 => unfold maxLen; omega
 case c4 => omega
 case c5 => simp; omega
 ·intro v' w2 hown' hgrow hnil
  have HW2 := hid hown'
  have HG2 := hid hgrow
  have HNil := hid hnil
  have HOy := hid hown
  clear hown' hgrow hown hnil
  go_wp2
  go_ret
  refine ⟨_, rfl, esc_own (m := 2) HOl.out (by rw [← HYS.out]; exact HW2.out) (by rw [HE.out]; rfl) (by rw [HE.out]; rfl), ?_, fun e => by first | exact HNil.out e | exact absurd (HNil.out.1 e).2 (by decide)⟩
  refine (((Below.refl base w).alloc hb _)).grown HG2.out (by simp; omega) ?_
  intro q hq
  exact (HOy.out.lt q hq).1
theorem appesc_tab (v : Value) (l : List UInt8) (n : Nat) (c : UInt8) (base : Nat) (w : World) (hown : w.ownsRow base 5 1 v n (l.map encB)) (hb : base ≤ w.heap.size) (hn : n ≤ 8000000) (h1 : c = 9) :
  Calls Tryz.prog 40 #[v, .int .u8 c.toNat] w fun e w' => ∃ v', e = .returned v' ∧ w'.ownsRow base 5 1 v' (l ++ esc c).length ((l ++ esc c).map encB) ∧ Below base w w' ∧ v' ≠ .slice none 0 0 := by
 obtain ⟨i0, hi, hz0, hz1, hz2⟩ := infoB
 have HE : Hid (esc c = [92, 116]) := hid (by subst h1; rfl)
 have m34 : ((c.toNat : Int) == 34) = false := by rw [isC_beq 34 c 34 rfl]; exact Bool.eq_false_iff.2 (fun e => absurd (h1.symm.trans (isC_iff.1 e)) (by decide))
 have m92 : ((c.toNat : Int) == 92) = false := by rw [isC_beq 92 c 92 rfl]; exact Bool.eq_false_iff.2 (fun e => absurd (h1.symm.trans (isC_iff.1 e)) (by decide))
 have m10 : ((c.toNat : Int) == 10) = false := by rw [isC_beq 10 c 10 rfl]; exact Bool.eq_false_iff.2 (fun e => absurd (h1.symm.trans (isC_iff.1 e)) (by decide))
 have m9 : ((c.toNat : Int) == 9) = true := by rw [isC_beq 9 c 9 rfl]; exact isC_iff.2 h1
 obtain ⟨YS, hYS⟩ : ∃ YS, YS = l.map encB := ⟨_, rfl⟩
 have HOl := hid hown
 rw [← hYS] at hown
 have HYS := hid hYS
 clear h1 hYS
 go_enter Tryz.func40, Tryz.ntmps40
 go_wp2_with (first | (at_builtin; refine wpList_append_own _ rfl _ _ 47 rfl base 5 i0 _ 1 1 Tryz.underlying47 hi hz0 hz1 hz2 rfl (by decide) _ _ _ rfl (hown.alloc _) ⟨w.heap.size, 0, none⟩ 2 2 [.int .u8 92, .int .u8 116] rfl rfl ?c1 ?c2 ?c3 ?c4 ?c5 ?_))
 case c1 => exact cells_new w _ _
 case c2 => exact two_one _ _
 case c3 => unfold maxLen; omega
 case c4 => omega
 case c5 => simp; omega
 ·intro v' w2 hown' hgrow hnil
  have HW2 := hid hown'
  have HG2 := hid hgrow
  have HNil := hid hnil
  have HOy := hid hown
  clear hown' hgrow hown hnil
  go_wp2
  go_ret
  refine ⟨_, rfl, esc_own (m := 2) HOl.out (by rw [← HYS.out]; exact HW2.out) (by rw [HE.out]; rfl) (by rw [HE.out]; rfl), ?_, fun e => by first | exact HNil.out e | exact absurd (HNil.out.1 e).2 (by decide)⟩
  refine (((Below.refl base w).alloc hb _)).grown HG2.out (by simp; omega) ?_
  intro q hq
  exact (HOy.out.lt q hq).1
theorem appesc_good (v : Value) (l : List UInt8) (n : Nat) (c : UInt8) (base : Nat) (w : World) (hown : w.ownsRow base 5 1 v n (l.map encB)) (hb : base ≤ w.heap.size) (hn : n ≤ 8000000) (h1 : ¬ (c = 34 ∨ c = 92)) (h2 : c ≠ 10) (h3 : c ≠ 9) (h4 : good c = true) :
  Calls Tryz.prog 40 #[v, .int .u8 c.toNat] w fun e w' => ∃ v', e = .returned v' ∧ w'.ownsRow base 5 1 v' (l ++ esc c).length ((l ++ esc c).map encB) ∧ Below base w w' ∧ v' ≠ .slice none 0 0 := by
 obtain ⟨i0, hi, hz0, hz1, hz2⟩ := infoB
 have HE : Hid (esc c = [c]) := hid (by unfold esc; rw [if_neg h1, if_neg h2, if_neg h3, if_pos h4])
 have m34 : ((c.toNat : Int) == 34) = false := by rw [isC_beq 34 c 34 rfl]; exact Bool.eq_false_iff.2 (fun e => h1 (.inl (isC_iff.1 e)))
 have m92 : ((c.toNat : Int) == 92) = false := by rw [isC_beq 92 c 92 rfl]; exact Bool.eq_false_iff.2 (fun e => h1 (.inr (isC_iff.1 e)))
 have m10 : ((c.toNat : Int) == 10) = false := by rw [isC_beq 10 c 10 rfl]; exact Bool.eq_false_iff.2 (fun e => h2 (isC_iff.1 e))
 have m9 : ((c.toNat : Int) == 9) = false := by rw [isC_beq 9 c 9 rfl]; exact Bool.eq_false_iff.2 (fun e => h3 (isC_iff.1 e))
 have HP := hid h4
 obtain ⟨YS, hYS⟩ : ∃ YS, YS = l.map encB := ⟨_, rfl⟩
 have HOl := hid hown
 rw [← hYS] at hown
 have HYS := hid hYS
 clear h1 h2 h3 h4 hYS
 go_enter Tryz.func40, Tryz.ntmps40
 go_wp2_with (first | (go_at_call 68; refine (printable_q c true _ HP.out).mono ?_; rintro e w' ⟨rfl, rfl⟩) | (at_builtin; refine wpList_append_own _ rfl _ _ 47 rfl base 5 i0 _ 1 1 Tryz.underlying47 hi hz0 hz1 hz2 rfl (by decide) _ _ _ rfl (hown.alloc _) ⟨w.heap.size, 0, none⟩ 1 1 [.int .u8 (c.toNat : Int)] rfl rfl ?c1 ?c2 ?c3 ?c4 ?c5 ?_))
 case c1 => exact cells_new w _ _
 case c2 => exact one_one _
 case c3 => unfold maxLen; omega
 case c4 => omega
 case c5 => simp; omega
 ·intro v' w2 hown' hgrow hnil
  have HW2 := hid hown'
  have HG2 := hid hgrow
  have HNil := hid hnil
  have HOy := hid hown
  clear hown' hgrow hown hnil
  go_wp2
  go_ret
  refine ⟨_, rfl, esc_own (m := 1) HOl.out (by rw [← HYS.out]; exact HW2.out) (by rw [HE.out]; rfl) (by rw [HE.out]; rfl), ?_, fun e => by first | exact HNil.out e | exact absurd (HNil.out.1 e).2 (by decide)⟩
  refine (((Below.refl base w).alloc hb _)).grown HG2.out (by simp; omega) ?_
  intro q hq
  exact (HOy.out.lt q hq).1
theorem appesc_hex (v : Value) (l : List UInt8) (n : Nat) (c : UInt8) (base : Nat) (w : World) (hown : w.ownsRow base 5 1 v n (l.map encB)) (hb : base ≤ w.heap.size) (hn : n ≤ 8000000) (h1 : ¬ (c = 34 ∨ c = 92)) (h2 : c ≠ 10) (h3 : c ≠ 9) (h4 : good c = false) :
  Calls Tryz.prog 40 #[v, .int .u8 c.toNat] w fun e w' => ∃ v', e = .returned v' ∧ w'.ownsRow base 5 1 v' (l ++ esc c).length ((l ++ esc c).map encB) ∧ Below base w w' ∧ v' ≠ .slice none 0 0 := by
 obtain ⟨i0, hi, hz0, hz1, hz2⟩ := infoB
 have HE : Hid (esc c = [92, 120, dg (c.toNat / 16), dg (c.toNat % 16)]) := hid (by unfold esc; rw [if_neg h1, if_neg h2, if_neg h3, if_neg (by rw [h4]; decide)])
 have m34 : ((c.toNat : Int) == 34) = false := by rw [isC_beq 34 c 34 rfl]; exact Bool.eq_false_iff.2 (fun e => h1 (.inl (isC_iff.1 e)))
 have m92 : ((c.toNat : Int) == 92) = false := by rw [isC_beq 92 c 92 rfl]; exact Bool.eq_false_iff.2 (fun e => h1 (.inr (isC_iff.1 e)))
 have m10 : ((c.toNat : Int) == 10) = false := by rw [isC_beq 10 c 10 rfl]; exact Bool.eq_false_iff.2 (fun e => h2 (isC_iff.1 e))
 have m9 : ((c.toNat : Int) == 9) = false := by rw [isC_beq 9 c 9 rfl]; exact Bool.eq_false_iff.2 (fun e => h3 (isC_iff.1 e))
 have HP := hid h4
 have q0 := c.toNat_lt
 have HAnd := hid (u8_and15 ⟨c.toNat, q0⟩)
 obtain ⟨m, hm⟩ : ∃ m, c.toNat = m := ⟨_, rfl⟩
 have f1 : ((m : Nat) : Int) / 16 = ((m / 16 : Nat) : Int) := by omega
 have f2 : bits .and .u8 (m : Int) 15 = ((m % 16 : Nat) : Int) := by rw [← hm]; exact HAnd.out
 obtain ⟨u, hu⟩ : ∃ u, m / 16 = u := ⟨_, rfl⟩
 obtain ⟨lo, hl⟩ : ∃ lo, m % 16 = lo := ⟨_, rfl⟩
 rw [hu] at f1
 rw [hl] at f2
 have u16 : u < 16 := by omega
 have l16 : lo < 16 := by omega
 have du := dig_at u u16
 have dl := dig_at lo l16
 rw [hm, hu, hl] at HE
 have u16z : (u : Int) < 16 := by omega
 have l16z : (lo : Int) < 16 := by omega
 rw [hm] at m34 m92 m10 m9
 have HM := hid hm
 obtain ⟨cu, hcu⟩ : ∃ cu, dg u = cu := ⟨_, rfl⟩
 obtain ⟨cl, hcl⟩ : ∃ cl, dg lo = cl := ⟨_, rfl⟩
 rw [hcu] at du HE
 rw [hcl] at dl HE
 obtain ⟨YS, hYS⟩ : ∃ YS, YS = l.map encB := ⟨_, rfl⟩
 have HOl := hid hown
 rw [← hYS] at hown
 have HYS := hid hYS
 clear h1 h2 h3 h4 hm hu hl HAnd hcu hcl hYS
 have hcallP := fun w0 => printable_q c false w0 HP.out
 rw [HM.out] at hcallP
 have HCP := hid hcallP
 clear hcallP
 rw [show (c.toNat : Int) = (m : Int) by rw [HM.out]]
 go_enter Tryz.func40, Tryz.ntmps40
 go_wp2_with (go_at_call 68; refine (HCP.out _).mono ?_; rintro e w' ⟨rfl, rfl⟩)
 go_region_law (refine step_append_own rfl _ _ 47 rfl base 5 i0 _ 1 1 Tryz.underlying47 hi hz0 hz1 hz2 rfl (by decide) _ _ _ rfl ((owns_drew hown).alloc _) ⟨w.heap.size, 0, none⟩ 4 4 [.int .u8 92, .int .u8 120, .int .u8 ((cu).toNat : Int), .int .u8 ((cl).toNat : Int)] rfl rfl ?c1 ?c2 ?c3 ?c4 ?c5 ?_; (case c1 => exact cells_new w.drew _ _); (case c2 => exact four_one _ _ _ _); (case c3 => (unfold maxLen; omega)); (case c4 => omega); (case c5 => (simp; omega)); intro v' w2 hown' hgrow hnil)
 all_goals
  have HW2 := hid hown'
  have HG2 := hid hgrow
  have HNil := hid hnil
  have HOy := hid hown
  clear hown' hgrow hown hnil
  go_wp2
  go_ret
  refine ⟨_, rfl, esc_own (m := 4) HOl.out (by rw [← HYS.out]; exact HW2.out) (by rw [HE.out]; rfl) (by rw [HE.out]; rfl), ?_, fun e => by first | exact HNil.out e | exact absurd (HNil.out.1 e).2 (by decide)⟩
  refine (((Below.refl base w).drew.alloc hb _)).grown HG2.out (by simp; omega) ?_
  intro q hq
  exact (HOy.out.lt q hq).1
theorem appesc_any (v : Value) (l : List UInt8) (n : Nat) (c : UInt8) (base : Nat) (w : World) (hown : w.ownsRow base 5 1 v n (l.map encB)) (hb : base ≤ w.heap.size) (hn : n ≤ 8000000) :
  Calls Tryz.prog 40 #[v, .int .u8 c.toNat] w fun e w' => ∃ v', e = .returned v' ∧ w'.ownsRow base 5 1 v' (l ++ esc c).length ((l ++ esc c).map encB) ∧ Below base w w' ∧ v' ≠ .slice none 0 0 := by
 by_cases h1 : c = 34 ∨ c = 92
 ·exact appesc_quo v l n c base w hown hb hn h1
 by_cases h2 : c = 10
 ·exact appesc_nl v l n c base w hown hb hn h2
 by_cases h3 : c = 9
 ·exact appesc_tab v l n c base w hown hb hn h3
 by_cases h4 : good c = true
 ·exact appesc_good v l n c base w hown hb hn h1 h2 h3 h4
 ·exact appesc_hex v l n c base w hown hb hn h1 h2 h3 (Bool.eq_false_iff.2 h4)
end
end Go.Proofs.YtgdejjkiiaodkaaGreatDoor
