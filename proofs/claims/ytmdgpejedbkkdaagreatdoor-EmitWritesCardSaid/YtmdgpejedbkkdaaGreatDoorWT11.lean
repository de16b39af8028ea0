/- QuoAppEsc, QuoDouble, RefQuote -/
import Derived.Test.YtmdgpejedbkkdaaGreatDoorWT10
set_option linter.unusedVariables false
set_option linter.unusedSimpArgs false
set_option maxRecDepth 100000
set_option maxHeartbeats 16000000
open Go.Lib (hid)
namespace Go.Proofs.YtmdgpejedbkkdaaGreatDoor
section
open Go.RowKit Go.Sort
open Q6
theorem step_append_own {P : Program} {ops : Array Oper} {o : Oper} {a : Act} {w : World} {K : Act → World → Prop} {Q : Exit → Act → World → Prop} {E : Prop} (hg : o.guard = none) (s x : Operand) (t : TypeId)
  (ho : o.op = .call { callee := .builtin .append, args := #[s, x], argTypes := #[t, t] })
  (base : Nat) (e : TypeId) (i : TypeInfo) (z : Value) (size bytes : Nat) (ht : P.underlying t = some (.slice e)) (hi : P.info? e = some i) (hz : i.zero = some z)
  (hsize : i.size = size) (hby : i.bytes = bytes) (hzs : z.cells.size = size) (hsz : 0 < size)
  (v : Value) (n : Nat) (xs : List Value) (hs : a.eval s = v) (hown : w.ownsRow base e size v n xs)
  (ad : Addr) (m c : Nat) (news : List Value) (hx : a.eval x = .slice (some ad) m c) (hl : news.length = m * size) (hnews : ∀ j u, news[j]? = some u → w.cell? (ad.add j) = some u) (h1 : ∀ u ∈ news, u.oneCell' = true)
  (h63 : n + m ≤ maxLen) (hbytes : (n + m) * bytes ≤ 140737488355328) (hbase : base ≤ w.heap.size)
  (h : ∀ v' w', w'.ownsRow base e size v' (n + m) (xs ++ news) → w.grownBy w' v.ownBlock → (v' = .slice none 0 0 ↔ v = .slice none 0 0 ∧ m = 0) → K (a.put o.dst v') w') :
  if Region.wanted o (yielded ops a.tmps) = true then Oper.wp P o a w K Q else E := by
 rw [if_pos (by simp [Region.wanted, hg])]
 exact wp_append_own w s x t ho base e i z size bytes ht hi hz hsize hby hzs hsz v n xs hs hown ad m c news hx hl hnews h1 h63 hbytes hbase h
theorem dig_at (x : Nat) (h : x < 16) : (⟨#[48, 49, 50, 51, 52, 53, 54, 55, 56, 57, 97, 98, 99, 100, 101, 102]⟩ : ByteArray)[x]'h = dg x := by
 have hx : x = 0 ∨ x = 1 ∨ x = 2 ∨ x = 3 ∨ x = 4 ∨ x = 5 ∨ x = 6 ∨ x = 7 ∨ x = 8 ∨ x = 9 ∨ x = 10 ∨ x = 11 ∨ x = 12 ∨ x = 13 ∨ x = 14 ∨ x = 15 := by omega
 rcases hx with rfl | rfl | rfl | rfl | rfl | rfl | rfl | rfl | rfl | rfl | rfl | rfl | rfl | rfl | rfl | rfl <;> rfl
theorem u8_and15 : ∀ x : Fin 256, bits .and .u8 (x.val : Int) 15 = ((x.val % 16 : Nat) : Int) := by decide +kernel
theorem esc_own {w w' : World} {base n m : Nat} {v v' : Value} {l E : List UInt8} {ys : List Value} (hown : w.ownsRow base 5 1 v n (l.map encB)) (hw : w'.ownsRow base 5 1 v' (n + m) (l.map encB ++ ys)) (hE : E.map encB = ys) (hm : E.length = m) :
  w'.ownsRow base 5 1 v' (l ++ E).length ((l ++ E).map encB) := by
 rw [List.map_append, hE, List.length_append, own_len hown, hm]; exact hw
theorem appesc_quo (v : Value) (l : List UInt8) (n : Nat) (c : UInt8) (base : Nat) (w : World) (hown : w.ownsRow base 5 1 v n (l.map encB)) (hb : base ≤ w.heap.size) (hn : n ≤ 8000000) (h1 : c = 34 ∨ c = 92) :
  Calls Tryz.prog 45 #[v, .int .u8 c.toNat] w fun e w' => ∃ v', e = .returned v' ∧ w'.ownsRow base 5 1 v' (l ++ esc c).length ((l ++ esc c).map encB) ∧ Below base w w' ∧ v' ≠ .slice none 0 0 := by
 obtain ⟨i0, hi, hz0, hz1, hz2⟩ := infoB
 have HE : Hid (esc c = [92, c]) := hid (by unfold esc; rw [if_pos h1])
 rcases Bool.eq_false_or_eq_true (isC 34 c) with h34 | h34
 ·have m34 : ((c.toNat : Int) == 34) = true := by rw [isC_beq 34 c 34 rfl]; exact h34
  obtain ⟨YS, hYS⟩ : ∃ YS, YS = l.map encB := ⟨_, rfl⟩
  have HOl := hid hown
  rw [← hYS] at hown
  have HYS := hid hYS
  clear h1 h34 hYS
  go_enter Tryz.func45, Tryz.ntmps45
  go_wp2_with (first | (at_builtin; refine wpList_append_own _ rfl _ _ 40 rfl base 5 i0 _ 1 1 Tryz.underlying40 hi hz0 hz1 hz2 rfl (by decide) _ _ _ rfl (hown.alloc _) ⟨w.heap.size, 0, none⟩ 2 2 [.int .u8 92, .int .u8 (c.toNat : Int)] rfl rfl ?c1 ?c2 ?c3 ?c4 ?c5 ?_))
  case c1 => exact cells_new w _ _
  case c2 => exact two_one _ _
  case c3 => unfold maxLen; omega
  case c4 => omega
  case c5 => simp; omega
  ·intro v' w2 hown' hgrow hnil
   have HW2 := hid hown'
   have HG2 := hid hgrow
   have HNil := hid hnil
   have HOy := hid hown
   clear hown' hgrow hown hnil
   go_wp2
   go_ret
   refine ⟨_, rfl, esc_own (m := 2) HOl.out (by rw [← HYS.out]; exact HW2.out) (by rw [HE.out]; rfl) (by rw [HE.out]; rfl), ?_, fun e => by first | exact HNil.out e | exact absurd (HNil.out.1 e).2 (by decide)⟩
   refine (((Below.refl base w).alloc hb _)).grown HG2.out (by simp; omega) ?_
   intro q hq
   exact (HOy.out.lt q hq).1
 ·have m34 : ((c.toNat : Int) == 34) = false := by rw [isC_beq 34 c 34 rfl]; exact h34
  have m92 : ((c.toNat : Int) == 92) = true := by rw [isC_beq 92 c 92 rfl]; exact isC_iff.2 (h1.resolve_left (fun e => by rw [isC_iff.2 e] at h34; cases h34))
  obtain ⟨YS, hYS⟩ : ∃ YS, YS = l.map encB := ⟨_, rfl⟩
  have HOl := hid hown
  rw [← hYS] at hown
  have HYS := hid hYS
  clear h1 h34 hYS
  go_enter Tryz.func45, Tryz.ntmps45
  go_wp2_with (first | (at_builtin; refine wpList_append_own _ rfl _ _ 40 rfl base 5 i0 _ 1 1 Tryz.underlying40 hi hz0 hz1 hz2 rfl (by decide) _ _ _ rfl (hown.alloc _) ⟨w.heap.size, 0, none⟩ 2 2 [.int .u8 92, .int .u8 (c.toNat : Int)] rfl rfl ?c1 ?c2 ?c3 ?c4 ?c5 ?_))
  case c1 => exact cells_new w _ _
  case c2 => exact two_one _ _
  case c3 => unfold maxLen; omega
  case c4 => omega
  case c5 => simp; omega
  ·intro v' w2 hown' hgrow hnil
   have HW2 := hid hown'
   have HG2 := hid hgrow
   have HNil := hid hnil
   have HOy := hid hown
   clear hown' hgrow hown hnil
   go_wp2
   go_ret
   refine ⟨_, rfl, esc_own (m := 2) HOl.out (by rw [← HYS.out]; exact HW2.out) (by rw [HE.out]; rfl) (by rw [HE.out]; rfl), ?_, fun e => by first | exact HNil.out e | exact absurd (HNil.out.1 e).2 (by decide)⟩
   refine (((Below.refl base w).alloc hb _)).grown HG2.out (by simp; omega) ?_
   intro q hq
   exact (HOy.out.lt q hq).1
theorem appesc_nl (v : Value) (l : List UInt8) (n : Nat) (c : UInt8) (base : Nat) (w : World) (hown : w.ownsRow base 5 1 v n (l.map encB)) (hb : base ≤ w.heap.size) (hn : n ≤ 8000000) (h1 : c = 10) :
  Calls Tryz.prog 45 #[v, .int .u8 c.toNat] w fun e w' => ∃ v', e = .returned v' ∧ w'.ownsRow base 5 1 v' (l ++ esc c).length ((l ++ esc c).map encB) ∧ Below base w w' ∧ v' ≠ .slice none 0 0 := by
 obtain ⟨i0, hi, hz0, hz1, hz2⟩ := infoB
 have HE : Hid (esc c = [92, 110]) := hid (by subst h1; rfl)
 have m34 : ((c.toNat : Int) == 34) = false := by rw [isC_beq 34 c 34 rfl]; exact Bool.eq_false_iff.2 (fun e => absurd (h1.symm.trans (isC_iff.1 e)) (by decide))
 have m92 : ((c.toNat : Int) == 92) = false := by rw [isC_beq 92 c 92 rfl]; exact Bool.eq_false_iff.2 (fun e => absurd (h1.symm.trans (isC_iff.1 e)) (by decide))
 have m10 : ((c.toNat : Int) == 10) = true := by rw [isC_beq 10 c 10 rfl]; exact isC_iff.2 h1
 obtain ⟨YS, hYS⟩ : ∃ YS, YS = l.map encB := ⟨_, rfl⟩
 have HOl := hid hown
 rw [← hYS] at hown
 have HYS := hid hYS
 clear h1 hYS
 go_enter Tryz.func45, Tryz.ntmps45
 go_wp2_with (first | (at_builtin; refine wpList_append_own _ rfl _ _ 40 rfl base 5 i0 _ 1 1 Tryz.underlying40 hi hz0 hz1 hz2 rfl (by decide) _ _ _ rfl (hown.alloc _) ⟨w.heap.size, 0, none⟩ 2 2 [.int .u8 92, .int .u8 110] rfl rfl ?c1 ?c2 ?c3 ?c4 ?c5 ?_))
 case c1 => exact cells_new w _ _
 case c2 => exact two_one _ _
 case c3 => unfold maxLen; omega
 case c4 => omega
 case c5 => simp; omega
 ·intro v' w2 hown' hgrow hnil
  have HW2 := hid hown'
  have HG2 := hid hgrow
  have HNil := hid hnil
  have HOy := hid hown
  clear hown' hgrow hown hnil
  go_wp2
  go_ret
  refine ⟨_, rfl, esc_own (m := 2) HOl.out (by rw [← HYS.out]; exact HW2.out) (by rw [HE.out]; rfl) (by rw [HE.out]; rfl), ?_, fun e => by first | exact HNil.out e | exact absurd (HNil.out.1 e).2 (by decide)⟩
  refine (((Below.refl base w).alloc hb _)).grown HG2.out (by simp; omega) ?_
  intro q hq
  exact (HOy.out.lt q hq).1
theorem appesc_tab (v : Value) (l : List UInt8) (n : Nat) (c : UInt8) (base : Nat) (w : World) (hown : w.ownsRow base 5 1 v n (l.map encB)) (hb : base ≤ w.heap.size) (hn : n ≤ 8000000) (h1 : c = 9) :
  Calls Tryz.prog 45 #[v, .int .u8 c.toNat] w fun e w' => ∃ v', e = .returned v' ∧ w'.ownsRow base 5 1 v' (l ++ esc c).length ((l ++ esc c).map encB) ∧ Below base w w' ∧ v' ≠ .slice none 0 0 := by
 obtain ⟨i0, hi, hz0, hz1, hz2⟩ := infoB
 have HE : Hid (esc c = [92, 116]) := hid (by subst h1; rfl)
 have m34 : ((c.toNat : Int) == 34) = false := by rw [isC_beq 34 c 34 rfl]; exact Bool.eq_false_iff.2 (fun e => absurd (h1.symm.trans (isC_iff.1 e)) (by decide))
 have m92 : ((c.toNat : Int) == 92) = false := by rw [isC_beq 92 c 92 rfl]; exact Bool.eq_false_iff.2 (fun e => absurd (h1.symm.trans (isC_iff.1 e)) (by decide))
 have m10 : ((c.toNat : Int) == 10) = false := by rw [isC_beq 10 c 10 rfl]; exact Bool.eq_false_iff.2 (fun e => absurd (h1.symm.trans (isC_iff.1 e)) (by decide))
 have m9 : ((c.toNat : Int) == 9) = true := by rw [isC_beq 9 c 9 rfl]; exact isC_iff.2 h1
 obtain ⟨YS, hYS⟩ : ∃ YS, YS = l.map encB := ⟨_, rfl⟩
 have HOl := hid hown
 rw [← hYS] at hown
 have HYS := hid hYS
 clear h1 hYS
 go_enter Tryz.func45, Tryz.ntmps45
 go_wp2_with (first | (at_builtin; refine wpList_append_own _ rfl _ _ 40 rfl base 5 i0 _ 1 1 Tryz.underlying40 hi hz0 hz1 hz2 rfl (by decide) _ _ _ rfl (hown.alloc _) ⟨w.heap.size, 0, none⟩ 2 2 [.int .u8 92, .int .u8 116] rfl rfl ?c1 ?c2 ?c3 ?c4 ?c5 ?_))
 case c1 => exact cells_new w _ _
 case c2 => exact two_one _ _
 case c3 => unfold maxLen; omega
 case c4 => omega
 case c5 => simp; omega
 ·intro v' w2 hown' hgrow hnil
  have HW2 := hid hown'
  have HG2 := hid hgrow
  have HNil := hid hnil
  have HOy := hid hown
  clear hown' hgrow hown hnil
  go_wp2
  go_ret
  refine ⟨_, rfl, esc_own (m := 2) HOl.out (by rw [← HYS.out]; exact HW2.out) (by rw [HE.out]; rfl) (by rw [HE.out]; rfl), ?_, fun e => by first | exact HNil.out e | exact absurd (HNil.out.1 e).2 (by decide)⟩
  refine (((Below.refl base w).alloc hb _)).grown HG2.out (by simp; omega) ?_
  intro q hq
  exact (HOy.out.lt q hq).1
theorem appesc_good (v : Value) (l : List UInt8) (n : Nat) (c : UInt8) (base : Nat) (w : World) (hown : w.ownsRow base 5 1 v n (l.map encB)) (hb : base ≤ w.heap.size) (hn : n ≤ 8000000) (h1 : ¬ (c = 34 ∨ c = 92)) (h2 : c ≠ 10) (h3 : c ≠ 9) (h4 : good c = true) :
  Calls Tryz.prog 45 #[v, .int .u8 c.toNat] w fun e w' => ∃ v', e = .returned v' ∧ w'.ownsRow base 5 1 v' (l ++ esc c).length ((l ++ esc c).map encB) ∧ Below base w w' ∧ v' ≠ .slice none 0 0 := by
 obtain ⟨i0, hi, hz0, hz1, hz2⟩ := infoB
 have HE : Hid (esc c = [c]) := hid (by unfold esc; rw [if_neg h1, if_neg h2, if_neg h3, if_pos h4])
 have m34 : ((c.toNat : Int) == 34) = false := by rw [isC_beq 34 c 34 rfl]; exact Bool.eq_false_iff.2 (fun e => h1 (.inl (isC_iff.1 e)))
 have m92 : ((c.toNat : Int) == 92) = false := by rw [isC_beq 92 c 92 rfl]; exact Bool.eq_false_iff.2 (fun e => h1 (.inr (isC_iff.1 e)))
 have m10 : ((c.toNat : Int) == 10) = false := by rw [isC_beq 10 c 10 rfl]; exact Bool.eq_false_iff.2 (fun e => h2 (isC_iff.1 e))
 have m9 : ((c.toNat : Int) == 9) = false := by rw [isC_beq 9 c 9 rfl]; exact Bool.eq_false_iff.2 (fun e => h3 (isC_iff.1 e))
 have HP := hid h4
 obtain ⟨YS, hYS⟩ : ∃ YS, YS = l.map encB := ⟨_, rfl⟩
 have HOl := hid hown
 rw [← hYS] at hown
 have HYS := hid hYS
 clear h1 h2 h3 h4 hYS
 go_enter Tryz.func45, Tryz.ntmps45
 go_wp2_with (first | (go_at_call 43; refine (printable_q c true _ HP.out).mono ?_; rintro e w' ⟨rfl, rfl⟩) | (at_builtin; refine wpList_append_own _ rfl _ _ 40 rfl base 5 i0 _ 1 1 Tryz.underlying40 hi hz0 hz1 hz2 rfl (by decide) _ _ _ rfl (hown.alloc _) ⟨w.heap.size, 0, none⟩ 1 1 [.int .u8 (c.toNat : Int)] rfl rfl ?c1 ?c2 ?c3 ?c4 ?c5 ?_))
 case c1 => exact cells_new w _ _
 case c2 => exact one_one _
 case c3 => unfold maxLen; omega
 case c4 => omega
 case c5 => simp; omega
 ·intro v' w2 hown' hgrow hnil
  have HW2 := hid hown'
  have HG2 := hid hgrow
  have HNil := hid hnil
  have HOy := hid hown
  clear hown' hgrow hown hnil
  go_wp2
  go_ret
  refine ⟨_, rfl, esc_own (m := 1) HOl.out (by rw [← HYS.out]; exact HW2.out) (by rw [HE.out]; rfl) (by rw [HE.out]; rfl), ?_, fun e => by first | exact HNil.out e | exact absurd (HNil.out.1 e).2 (by decide)⟩
  refine (((Below.refl base w).alloc hb _)).grown HG2.out (by simp; omega) ?_
  intro q hq
  exact (HOy.out.lt q hq).1
theorem appesc_hex (v : Value) (l : List UInt8) (n : Nat) (c : UInt8) (base : Nat) (w : World) (hown : w.ownsRow base 5 1 v n (l.map encB)) (hb : base ≤ w.heap.size) (hn : n ≤ 8000000) (h1 : ¬ (c = 34 ∨ c = 92)) (h2 : c ≠ 10) (h3 : c ≠ 9) (h4 : good c = false) :
  Calls Tryz.prog 45 #[v, .int .u8 c.toNat] w fun e w' => ∃ v', e = .returned v' ∧ w'.ownsRow base 5 1 v' (l ++ esc c).length ((l ++ esc c).map encB) ∧ Below base w w' ∧ v' ≠ .slice none 0 0 := by
 obtain ⟨i0, hi, hz0, hz1, hz2⟩ := infoB
 have HE : Hid (esc c = [92, 120, dg (c.toNat / 16), dg (c.toNat % 16)]) := hid (by unfold esc; rw [if_neg h1, if_neg h2, if_neg h3, if_neg (by rw [h4]; decide)])
 have m34 : ((c.toNat : Int) == 34) = false := by rw [isC_beq 34 c 34 rfl]; exact Bool.eq_false_iff.2 (fun e => h1 (.inl (isC_iff.1 e)))
 have m92 : ((c.toNat : Int) == 92) = false := by rw [isC_beq 92 c 92 rfl]; exact Bool.eq_false_iff.2 (fun e => h1 (.inr (isC_iff.1 e)))
 have m10 : ((c.toNat : Int) == 10) = false := by rw [isC_beq 10 c 10 rfl]; exact Bool.eq_false_iff.2 (fun e => h2 (isC_iff.1 e))
 have m9 : ((c.toNat : Int) == 9) = false := by rw [isC_beq 9 c 9 rfl]; exact Bool.eq_false_iff.2 (fun e => h3 (isC_iff.1 e))
 have HP := hid h4
 have q0 := c.toNat_lt
 have HAnd := hid (u8_and15 ⟨c.toNat, q0⟩)
 obtain ⟨m, hm⟩ : ∃ m, c.toNat = m := ⟨_, rfl⟩
 have f1 : ((m : Nat) : Int) / 16 = ((m / 16 : Nat) : Int) := by omega
 have f2 : bits .and .u8 (m : Int) 15 = ((m % 16 : Nat) : Int) := by rw [← hm]; exact HAnd.out
 obtain ⟨u, hu⟩ : ∃ u, m / 16 = u := ⟨_, rfl⟩
 obtain ⟨lo, hl⟩ : ∃ lo, m % 16 = lo := ⟨_, rfl⟩
 rw [hu] at f1
 rw [hl] at f2
 have u16 : u < 16 := by omega
 have l16 : lo < 16 := by omega
 have du := dig_at u u16
 have dl := dig_at lo l16
 rw [hm, hu, hl] at HE
 have u16z : (u : Int) < 16 := by omega
 have l16z : (lo : Int) < 16 := by omega
 rw [hm] at m34 m92 m10 m9
 have HM := hid hm
 obtain ⟨cu, hcu⟩ : ∃ cu, dg u = cu := ⟨_, rfl⟩
 obtain ⟨cl, hcl⟩ : ∃ cl, dg lo = cl := ⟨_, rfl⟩
 rw [hcu] at du HE
 rw [hcl] at dl HE
 obtain ⟨YS, hYS⟩ : ∃ YS, YS = l.map encB := ⟨_, rfl⟩
 have HOl := hid hown
 rw [← hYS] at hown
 have HYS := hid hYS
 clear h1 h2 h3 h4 hm hu hl HAnd hcu hcl hYS
 have hcallP := fun w0 => printable_q c false w0 HP.out
 rw [HM.out] at hcallP
 have HCP := hid hcallP
 clear hcallP
 rw [show (c.toNat : Int) = (m : Int) by rw [HM.out]]
 go_enter Tryz.func45, Tryz.ntmps45
 go_wp2_with (go_at_call 43; refine (HCP.out _).mono ?_; rintro e w' ⟨rfl, rfl⟩)
 go_region_law (refine step_append_own rfl _ _ 40 rfl base 5 i0 _ 1 1 Tryz.underlying40 hi hz0 hz1 hz2 rfl (by decide) _ _ _ rfl ((owns_drew hown).alloc _) ⟨w.heap.size, 0, none⟩ 4 4 [.int .u8 92, .int .u8 120, .int .u8 ((cu).toNat : Int), .int .u8 ((cl).toNat : Int)] rfl rfl ?c1 ?c2 ?c3 ?c4 ?c5 ?_; (case c1 => exact cells_new w.drew _ _); (case c2 => exact four_one _ _ _ _); (case c3 => (unfold maxLen; omega)); (case c4 => omega); (case c5 => (simp; omega)); intro v' w2 hown' hgrow hnil)
 all_goals
  have HW2 := hid hown'
  have HG2 := hid hgrow
  have HNil := hid hnil
  have HOy := hid hown
  clear hown' hgrow hown hnil
  go_wp2
  go_ret
  refine ⟨_, rfl, esc_own (m := 4) HOl.out (by rw [← HYS.out]; exact HW2.out) (by rw [HE.out]; rfl) (by rw [HE.out]; rfl), ?_, fun e => by first | exact HNil.out e | exact absurd (HNil.out.1 e).2 (by decide)⟩
  refine (((Below.refl base w).drew.alloc hb _)).grown HG2.out (by simp; omega) ?_
  intro q hq
  exact (HOy.out.lt q hq).1
theorem appesc_any (v : Value) (l : List UInt8) (n : Nat) (c : UInt8) (base : Nat) (w : World) (hown : w.ownsRow base 5 1 v n (l.map encB)) (hb : base ≤ w.heap.size) (hn : n ≤ 8000000) :
  Calls Tryz.prog 45 #[v, .int .u8 c.toNat] w fun e w' => ∃ v', e = .returned v' ∧ w'.ownsRow base 5 1 v' (l ++ esc c).length ((l ++ esc c).map encB) ∧ Below base w w' ∧ v' ≠ .slice none 0 0 := by
 by_cases h1 : c = 34 ∨ c = 92
 ·exact appesc_quo v l n c base w hown hb hn h1
 by_cases h2 : c = 10
 ·exact appesc_nl v l n c base w hown hb hn h2
 by_cases h3 : c = 9
 ·exact appesc_tab v l n c base w hown hb hn h3
 by_cases h4 : good c = true
 ·exact appesc_good v l n c base w hown hb hn h1 h2 h3 h4
 ·exact appesc_hex v l n c base w hown hb hn h1 h2 h3 (Bool.eq_false_iff.2 h4)
end
section
open Go.RowKit Go.Sort
open Q6
theorem esc_len (c : UInt8) : (esc c).length ≤ 4 := by
 unfold esc
 split
 ·show 2 ≤ 4; decide
 ·split
  ·show 2 ≤ 4; decide
  ·split
   ·show 2 ≤ 4; decide
   ·split
    ·show 1 ≤ 4; decide
    ·exact Nat.le_refl _
theorem escL_len (l : List UInt8) : (escL l).length ≤ 4 * l.length := by
 induction l with
 | nil => exact Nat.le_refl _
 | cons c l ih => rw [escL_cons, List.length_append, List.length_cons]; have := esc_len c; omega
theorem escL_app (l : List UInt8) (c : UInt8) : escL (l ++ [c]) = escL l ++ esc c := by
 induction l with
 | nil => show escL (c :: []) = _; rw [escL_cons]; show esc c ++ [] = [] ++ esc c; simp
 | cons b l ih => rw [List.cons_append, escL_cons, escL_cons, ih, List.append_assoc]
theorem take_snoc {l : List UInt8} {k : Nat} (h : k < l.length) : l.take (k + 1) = l.take k ++ [l.getD k 0] := by
 rw [List.take_succ_eq_append_getElem h, List.getD_eq_getElem?_getD, List.getElem?_eq_getElem h]; rfl
def accL (l : List UInt8) (k : Nat) : List UInt8 := 34 :: escL (l.take k)
theorem accL_snoc {l : List UInt8} {k : Nat} (h : k < l.length) : accL l (k + 1) = accL l k ++ esc (l.getD k 0) := by
 unfold accL; rw [take_snoc h, escL_app]; rfl
theorem accL_len (l : List UInt8) (k : Nat) : (accL l k).length ≤ 4 * l.length + 1 := by
 unfold accL
 rw [List.length_cons]
 have h1 := escL_len (l.take k)
 have h2 : (l.take k).length ≤ l.length := by rw [List.length_take]; exact Nat.min_le_right ..
 omega
theorem accL_end {l : List UInt8} {k : Nat} (h : l.length ≤ k) : accL l k ++ [34] = dblL l := by
 unfold accL dblL; rw [List.take_of_length_le h]
theorem Double_any (s : ByteArray) (w : World) (hs : s.size ≤ 1000000) (D : ByteArray) (hD : dblL s.data.toList = D.data.toList) :
  Calls Tryz.prog 26 #[.string s] w fun e w' => e = .returned (.string D) ∧ Below w.heap.size w w' := by
 obtain ⟨i0, hi, hz0, hz1, hz2⟩ := infoB
 have HD := hid hD
 clear hD
 obtain ⟨n, hn⟩ : ∃ n, s.size = n := ⟨_, rfl⟩
 have hlen : s.data.toList.length = n := by rw [← hn]; rfl
 have HLEN := hid hlen
 obtain ⟨w1, hmk, hown1, hgr1⟩ := run_make_own (P := Tryz.prog) w w.heap.size 40 5 i0 _ 1 Tryz.underlying40 hi hz0 hz1 .i64 .i64 (n + 2) (by rw [hz2]; omega) (by unfold maxLen; omega) (Nat.le_refl _)
 have hb1 : Below w.heap.size w w1 := (Below.refl _ _).grown hgr1 (Nat.le_refl _) (by intro p hp; cases hp)
 have HO1 := hid hown1
 have HB1 := hid hb1
 have h2n : ((n + 2 : Nat) : Int) = (n : Int) + 2 := by omega
 rw [h2n] at hmk
 clear hgr1 hb1 h2n hlen
 have hw2 : IntKind.i64.wrap ((n : Int) + 2) = (n : Int) + 2 := IntWalk.i64_in _ (by omega)
 have hsn : n ≤ 1000000 := by omega
 have hsz1 := HB1.out.size
 go_enter Tryz.func26, Tryz.ntmps26
 go_wp2_with (at_builtin; refine wpList_append_own _ rfl _ _ 40 rfl w.heap.size 5 i0 _ 1 1 Tryz.underlying40 hi hz0 hz1 hz2 rfl (by decide) _ _ _ rfl (hown1.alloc _) ⟨w1.heap.size, 0, none⟩ 1 1 [.int .u8 34] rfl rfl ?c1 ?c2 ?c3 ?c4 ?c5 ?_)
 case c1 => exact cells_new w1 _ _
 case c2 => exact one_one _
 case c3 => unfold maxLen; omega
 case c4 => omega
 case c5 => simp; omega
 intro v1 w2 hown2 hgrow2 hnil2
 have HO2 := hid hown2
 have HB2 : Hid (Below w.heap.size w w2) := hid ((HB1.out.alloc HB1.out.size _).grown hgrow2 (by simp; omega) (by intro q hq; exact (HO1.out.lt q hq).1))
 have HN2 : Hid (v1 ≠ .slice none 0 0) := hid (fun e => by first | exact hnil2 e | exact absurd (hnil2.1 e).2 (by decide))
 clear hown1 hown2 hgrow2 hnil2 hmk HO1 HB1 hsz1
 go_wp2
 go_loopw [3, 14] (fun sv si wr => ∃ k : Nat, k ≤ n ∧ si = .int .i64 (k : Int) ∧ wr.ownsRow w.heap.size 5 1 sv (accL s.data.toList k).length ((accL s.data.toList k).map encB) ∧ Below w.heap.size w wr ∧ sv ≠ .slice none 0 0) (fun _ si _ => n - (intOf si).toNat)
 case atStart => exact ⟨0, Nat.zero_le _, rfl, HO2.out, HB2.out, HN2.out⟩
 case round =>
  clear HO2 HB2 HN2
  obtain ⟨k, hk, rfl, hown, hbel, hnn⟩ := hrel
  have HNN := hid hnn
  have HB := hid hbel
  clear hbel hnn
  have hal := accL_len s.data.toList k
  rw [HLEN.out] at hal
  by_cases hlt : k < n
  ·have hks : k < s.size := by omega
   have hkl : k < s.data.toList.length := by rw [HLEN.out]; exact hlt
   have HX := hid (accL_snoc hkl)
   obtain ⟨c, hc⟩ : ∃ c, s[k]'hks = c := ⟨_, rfl⟩
   rw [getd s k hks, hc] at HX
   have hskz : (k : Int) < (n : Int) := by omega
   obtain ⟨u7, hu7⟩ : ∃ u, u = wr := ⟨_, rfl⟩
   have HC : Hid (∀ v, wr.ownsRow w.heap.size 5 1 v (accL s.data.toList k).length ((accL s.data.toList k).map encB) → Calls Tryz.prog 45 #[v, .int .u8 c.toNat] wr fun e w' => ∃ v', e = .returned v' ∧ w'.ownsRow w.heap.size 5 1 v' (accL s.data.toList (k + 1)).length ((accL s.data.toList (k + 1)).map encB) ∧ Below w.heap.size wr w' ∧ v' ≠ .slice none 0 0) := hid (fun v hv => by
    rw [HX.out]
    exact appesc_any v _ _ c w.heap.size wr hv HB.out.size (by omega))
   have HO := hid hown
   clear hkl hown hal hu7
   go_wp2_with (go_at_call 45; refine (HC.out _ HO.out).mono ?_; rintro e w3 ⟨v3, rfl, ho3, hb3, hn3⟩; have HO3 := hid ho3; have HB3 := hid hb3; have HN3 := hid hn3; clear ho3 hb3 hn3)
   go_roundw
   case measure => simp [intOf]; omega
   case rel => exact ⟨k + 1, by omega, by go_num, HO3.out, HB.out.trans HB3.out, HN3.out⟩
  ·obtain rfl : k = n := by omega
   have HE := hid (accL_end (l := s.data.toList) (k := k) (by rw [HLEN.out]; exact Nat.le_refl _))
   have HO := hid hown
   obtain ⟨YS, hYS⟩ : ∃ YS, YS = (accL s.data.toList k).map encB := ⟨_, rfl⟩
   rw [← hYS] at hown
   have HYS := hid hYS
   obtain ⟨al, hal2⟩ : ∃ al, (accL s.data.toList k).length = al := ⟨_, rfl⟩
   rw [hal2] at hown hal
   have HAL := hid hal2
   clear hYS hal2
   have hHb := HB.out.size
   go_wp2_with (at_builtin; refine wpList_append_own _ rfl _ _ 40 rfl w.heap.size 5 i0 _ 1 1 Tryz.underlying40 hi hz0 hz1 hz2 rfl (by decide) _ _ _ rfl (hown.alloc _) ⟨wr.heap.size, 0, none⟩ 1 1 [.int .u8 34] rfl rfl ?c1 ?c2 ?c3 ?c4 ?c5 ?_)
   case c1 => exact cells_new wr _ _
   case c2 => exact one_one _
   case c3 => unfold maxLen; omega
   case c4 => omega
   case c5 => simp; omega
   intro v4 w4 hown4 hgrow4 hnil4
   have HB4 : Hid (Below w.heap.size w w4) := hid ((HB.out.alloc HB.out.size _).grown hgrow4 (by simp; omega) (by intro q hq; exact (HO.out.lt q hq).1))
   have hown5 : w4.ownsRow w.heap.size 5 1 v4 (al + 1) ((dblL s.data.toList).map encB) := by
    rw [← HE.out, map_snoc, ← HYS.out]; exact hown4
   obtain ⟨g, cap, hv, hcv⟩ := own_conv hown5 (fun e => by first | exact hnil4 e | exact absurd (hnil4.1 e).2 (by decide))
   subst hv
   have hDD : (⟨(dblL s.data.toList).toArray⟩ : ByteArray) = D := mk_of HD.out
   rw [hDD] at hcv
   clear hown hown4 hown5 hgrow4 hnil4 hDD hal
   go_wp2
   go_ret
   exact ⟨rfl, HB4.out⟩
end
section
open Go.RowKit Go.Sort
open Q6
theorem dg_int (u : Nat) (h : u < 16) : ((dg u).toNat : Int) = if u < 10 then 48 + (u : Int) else 87 + (u : Int) := by
 rw [dg_nat u h]
 split <;> omega
theorem digit_any (u : Nat) (w : World) (h : u < 16) :
  Calls Tryz.prog 48 #[.int .u8 (u : Int)] w fun e w' => e = .returned (.int .u8 ((dg u).toNat : Int)) ∧ w = w' := by
 have HD := hid (dg_int u h)
 by_cases h1 : u < 10
 ·rw [if_pos h1] at HD
  have hw : IntKind.u8.wrap (48 + (u : Int)) = 48 + (u : Int) := wrap8 (by omega) (by omega)
  have h1z : (u : Int) < 10 := by omega
  go_enter Tryz.func48, Tryz.ntmps48
  go_wp2
  go_ret
  exact ⟨ret_int HD.out.symm, rfl⟩
 ·rw [if_neg h1] at HD
  have hw : IntKind.u8.wrap (87 + (u : Int)) = 87 + (u : Int) := wrap8 (by omega) (by omega)
  have h1z : ¬ (u : Int) < 10 := by omega
  go_enter Tryz.func48, Tryz.ntmps48
  go_wp2
  go_ret
  exact ⟨ret_int HD.out.symm, rfl⟩
theorem digit_x (u : Nat) (c : UInt8) (w : World) (h : Hid (u < 16 ∧ dg u = c)) :
  Calls Tryz.prog 48 #[.int .u8 (u : Int)] w fun e w' => e = .returned (.int .u8 (c.toNat : Int)) ∧ w = w' := by
 rw [← h.out.2]; exact digit_any u w h.out.1
theorem own_one (w : World) (x : Value) (e : TypeId) : (w.alloc (.cells #[x] e)).ownsRow w.heap.size e 1 (.slice (some ⟨w.heap.size, 0, none⟩) 1 1) 1 [x] := by
 refine ⟨rfl, .inr ⟨w.heap.size, 1, #[x], rfl, Nat.le_refl _, ?_, Nat.le_refl _, by unfold maxLen; decide, rfl, rfl⟩⟩
 show (w.heap.push _)[w.heap.size]? = _
 simp
theorem RDouble_any (s : ByteArray) (w : World) (hs : s.size ≤ 1000000) (D : ByteArray) (hD : dblL s.data.toList = D.data.toList) :
  Calls Tryz.prog 28 #[.string s] w fun e w' => e = .returned (.string D) ∧ Below w.heap.size w w' := by
 obtain ⟨i0, hi, hz0, hz1, hz2⟩ := infoB
 have HD := hid hD
 clear hD
 obtain ⟨n, hn⟩ : ∃ n, s.size = n := ⟨_, rfl⟩
 have HLEN : Hid (s.data.toList.length = n) := hid ((len_eq s).trans hn)
 have hsn : n ≤ 1000000 := by omega
 have HO1 := hid (own_one w (.int .u8 34) 5)
 have HB1 := hid ((Below.refl _ w).alloc (Nat.le_refl _) (.cells #[.int .u8 34] 5))
 go_enter Tryz.func28, Tryz.ntmps28
 go_wp2
 go_loopw [3, 4] (fun sv si wr => ∃ k : Nat, k ≤ n ∧ si = .int .i64 (k : Int) ∧ wr.ownsRow w.heap.size 5 1 sv (accL s.data.toList k).length ((accL s.data.toList k).map encB) ∧ Below w.heap.size w wr ∧ sv ≠ .slice none 0 0) (fun _ si _ => n - (intOf si).toNat)
 case atStart => exact ⟨0, Nat.zero_le _, rfl, HO1.out, HB1.out, by simp⟩
 case round =>
  clear HO1 HB1
  obtain ⟨k, hk, rfl, hown, hbel, hnn⟩ := hrel
  have HNN := hid hnn
  have HB := hid hbel
  clear hbel hnn
  have hal := accL_len s.data.toList k
  rw [HLEN.out] at hal
  by_cases hlt : k < n
  ·have hks : k < s.size := by omega
   have hkl : k < s.data.toList.length := by rw [HLEN.out]; exact hlt
   have hskz : (k : Int) < (n : Int) := by omega
   have HX := hid (accL_snoc hkl)
   obtain ⟨c, hc⟩ : ∃ c, s[k]'hks = c := ⟨_, rfl⟩
   rw [getd s k hks, hc] at HX
   clear hkl
   by_cases h34 : c = 34
   ·have m34 : ((c.toNat : Int) == 34) = true := by rw [isC_beq 34 c 34 rfl]; exact isC_iff.2 h34
    have HE : Hid (esc c = [92, c]) := hid (by unfold esc; rw [if_pos (.inl h34)])
    clear h34
    obtain ⟨YS, hYS⟩ : ∃ YS, YS = (accL s.data.toList k).map encB := ⟨_, rfl⟩
    rw [← hYS] at hown
    have HYS := hid hYS
    obtain ⟨al, hal2⟩ : ∃ al, (accL s.data.toList k).length = al := ⟨_, rfl⟩
    rw [hal2] at hown hal
    have HAL := hid hal2
    clear hYS hal2
    go_wp2_with (first
     | (at_builtin; refine wpList_append_own _ rfl _ _ 40 rfl w.heap.size 5 i0 _ 1 1 Tryz.underlying40 hi hz0 hz1 hz2 rfl (by decide) _ _ _ rfl (hown.alloc _) ⟨wr.heap.size, 0, none⟩ 2 2 [.int .u8 92, .int .u8 (c.toNat : Int)] rfl rfl ?c1 ?c2 ?c3 ?c4 ?c5 ?_))
    case c1 => exact cells_new wr _ _
    case c2 => exact two_one _ _
    case c3 => unfold maxLen; omega
    case c4 => omega
    case c5 => have := HB.out.size; simp; omega
    ·intro v' w2 hown' hgrow hnil
     have HW2 := hid hown'
     have HG2 := hid hgrow
     have HNil := hid hnil
     have HOy := hid hown
     clear hown' hgrow hown hnil hal
     go_wp2
     go_roundw
     case measure => simp [intOf]; omega
     case rel =>
      refine ⟨k + 1, by omega, by go_num, ?_, ?_, fun e => by first | exact HNil.out e | exact HNN.out (HNil.out.1 e).1⟩
      ·rw [HX.out, HE.out, List.map_append, List.length_append, HAL.out, ← HYS.out]; exact HW2.out
      ·refine (HB.out.alloc HB.out.size _).grown HG2.out (by have := HB.out.size; simp; omega) ?_
       intro q hq
       exact (HOy.out.lt q hq).1
   have m34 : ((c.toNat : Int) == 34) = false := by rw [isC_beq 34 c 34 rfl]; exact Bool.eq_false_iff.2 (fun e => h34 (isC_iff.1 e))
   by_cases h92 : c = 92
   ·have m92 : ((c.toNat : Int) == 92) = true := by rw [isC_beq 92 c 92 rfl]; exact isC_iff.2 h92
    have HE : Hid (esc c = [92, c]) := hid (by unfold esc; rw [if_pos (.inr h92)])
    clear h34 h92
    obtain ⟨YS, hYS⟩ : ∃ YS, YS = (accL s.data.toList k).map encB := ⟨_, rfl⟩
    rw [← hYS] at hown
    have HYS := hid hYS
    obtain ⟨al, hal2⟩ : ∃ al, (accL s.data.toList k).length = al := ⟨_, rfl⟩
    rw [hal2] at hown hal
    have HAL := hid hal2
    clear hYS hal2
    go_wp2_with (first
     | (at_builtin; refine wpList_append_own _ rfl _ _ 40 rfl w.heap.size 5 i0 _ 1 1 Tryz.underlying40 hi hz0 hz1 hz2 rfl (by decide) _ _ _ rfl (hown.alloc _) ⟨wr.heap.size, 0, none⟩ 2 2 [.int .u8 92, .int .u8 (c.toNat : Int)] rfl rfl ?c1 ?c2 ?c3 ?c4 ?c5 ?_))
    case c1 => exact cells_new wr _ _
    case c2 => exact two_one _ _
    case c3 => unfold maxLen; omega
    case c4 => omega
    case c5 => have := HB.out.size; simp; omega
    ·intro v' w2 hown' hgrow hnil
     have HW2 := hid hown'
     have HG2 := hid hgrow
     have HNil := hid hnil
     have HOy := hid hown
     clear hown' hgrow hown hnil hal
     go_wp2
     go_roundw
     case measure => simp [intOf]; omega
     case rel =>
      refine ⟨k + 1, by omega, by go_num, ?_, ?_, fun e => by first | exact HNil.out e | exact HNN.out (HNil.out.1 e).1⟩
      ·rw [HX.out, HE.out, List.map_append, List.length_append, HAL.out, ← HYS.out]; exact HW2.out
      ·refine (HB.out.alloc HB.out.size _).grown HG2.out (by have := HB.out.size; simp; omega) ?_
       intro q hq
       exact (HOy.out.lt q hq).1
   have m92 : ((c.toNat : Int) == 92) = false := by rw [isC_beq 92 c 92 rfl]; exact Bool.eq_false_iff.2 (fun e => h92 (isC_iff.1 e))
   have hno : ¬ (c = 34 ∨ c = 92) := fun e => e.elim h34 h92
   by_cases h10 : c = 10
   ·have m10 : ((c.toNat : Int) == 10) = true := by rw [isC_beq 10 c 10 rfl]; exact isC_iff.2 h10
    have HE : Hid (esc c = [92, 110]) := hid (by subst h10; rfl)
    clear h34 h92 h10 hno
    obtain ⟨YS, hYS⟩ : ∃ YS, YS = (accL s.data.toList k).map encB := ⟨_, rfl⟩
    rw [← hYS] at hown
    have HYS := hid hYS
    obtain ⟨al, hal2⟩ : ∃ al, (accL s.data.toList k).length = al := ⟨_, rfl⟩
    rw [hal2] at hown hal
    have HAL := hid hal2
    clear hYS hal2
    go_wp2_with (first
     | (at_builtin; refine wpList_append_own _ rfl _ _ 40 rfl w.heap.size 5 i0 _ 1 1 Tryz.underlying40 hi hz0 hz1 hz2 rfl (by decide) _ _ _ rfl (hown.alloc _) ⟨wr.heap.size, 0, none⟩ 2 2 [.int .u8 92, .int .u8 110] rfl rfl ?c1 ?c2 ?c3 ?c4 ?c5 ?_))
    case c1 => exact cells_new wr _ _
    case c2 => exact two_one _ _
    case c3 => unfold maxLen; omega
    case c4 => omega
    case c5 => have := HB.out.size; simp; omega
    ·intro v' w2 hown' hgrow hnil
     have HW2 := hid hown'
     have HG2 := hid hgrow
     have HNil := hid hnil
     have HOy := hid hown
     clear hown' hgrow hown hnil hal
     go_wp2
     go_roundw
     case measure => simp [intOf]; omega
     case rel =>
      refine ⟨k + 1, by omega, by go_num, ?_, ?_, fun e => by first | exact HNil.out e | exact HNN.out (HNil.out.1 e).1⟩
      ·rw [HX.out, HE.out, List.map_append, List.length_append, HAL.out, ← HYS.out]; exact HW2.out
      ·refine (HB.out.alloc HB.out.size _).grown HG2.out (by have := HB.out.size; simp; omega) ?_
       intro q hq
       exact (HOy.out.lt q hq).1
   have m10 : ((c.toNat : Int) == 10) = false := by rw [isC_beq 10 c 10 rfl]; exact Bool.eq_false_iff.2 (fun e => h10 (isC_iff.1 e))
   by_cases h9 : c = 9
   ·have m9 : ((c.toNat : Int) == 9) = true := by rw [isC_beq 9 c 9 rfl]; exact isC_iff.2 h9
    have HE : Hid (esc c = [92, 116]) := hid (by subst h9; rfl)
    clear h34 h92 h10 h9 hno
    obtain ⟨YS, hYS⟩ : ∃ YS, YS = (accL s.data.toList k).map encB := ⟨_, rfl⟩
    rw [← hYS] at hown
    have HYS := hid hYS
    obtain ⟨al, hal2⟩ : ∃ al, (accL s.data.toList k).length = al := ⟨_, rfl⟩
    rw [hal2] at hown hal
    have HAL := hid hal2
    clear hYS hal2
    go_wp2_with (first
     | (at_builtin; refine wpList_append_own _ rfl _ _ 40 rfl w.heap.size 5 i0 _ 1 1 Tryz.underlying40 hi hz0 hz1 hz2 rfl (by decide) _ _ _ rfl (hown.alloc _) ⟨wr.heap.size, 0, none⟩ 2 2 [.int .u8 92, .int .u8 116] rfl rfl ?c1 ?c2 ?c3 ?c4 ?c5 ?_))
    case c1 => exact cells_new wr _ _
    case c2 => exact two_one _ _
    case c3 => unfold maxLen; omega
    case c4 => omega
    case c5 => have := HB.out.size; simp; omega
    ·intro v' w2 hown' hgrow hnil
     have HW2 := hid hown'
     have HG2 := hid hgrow
     have HNil := hid hnil
     have HOy := hid hown
     clear hown' hgrow hown hnil hal
     go_wp2
     go_roundw
     case measure => simp [intOf]; omega
     case rel =>
      refine ⟨k + 1, by omega, by go_num, ?_, ?_, fun e => by first | exact HNil.out e | exact HNN.out (HNil.out.1 e).1⟩
      ·rw [HX.out, HE.out, List.map_append, List.length_append, HAL.out, ← HYS.out]; exact HW2.out
      ·refine (HB.out.alloc HB.out.size _).grown HG2.out (by have := HB.out.size; simp; omega) ?_
       intro q hq
       exact (HOy.out.lt q hq).1
   have m9 : ((c.toNat : Int) == 9) = false := by rw [isC_beq 9 c 9 rfl]; exact Bool.eq_false_iff.2 (fun e => h9 (isC_iff.1 e))
   rcases Bool.eq_false_or_eq_true (good c) with hg | hg
   ·have HP := hid hg
    have HE : Hid (esc c = [c]) := hid (by unfold esc; rw [if_neg hno, if_neg h10, if_neg h9, if_pos hg])
    clear h34 h92 h10 h9 hno hg
    obtain ⟨YS, hYS⟩ : ∃ YS, YS = (accL s.data.toList k).map encB := ⟨_, rfl⟩
    rw [← hYS] at hown
    have HYS := hid hYS
    obtain ⟨al, hal2⟩ : ∃ al, (accL s.data.toList k).length = al := ⟨_, rfl⟩
    rw [hal2] at hown hal
    have HAL := hid hal2
    clear hYS hal2
    go_wp2_with (first
     | (go_at_call 47; refine (Good_q c true _ HP.out).mono ?_; rintro e w' ⟨rfl, rfl⟩)
     | (at_builtin; refine wpList_append_own _ rfl _ _ 40 rfl w.heap.size 5 i0 _ 1 1 Tryz.underlying40 hi hz0 hz1 hz2 rfl (by decide) _ _ _ rfl (hown.alloc _) ⟨wr.heap.size, 0, none⟩ 1 1 [.int .u8 (c.toNat : Int)] rfl rfl ?c1 ?c2 ?c3 ?c4 ?c5 ?_))
    case c1 => exact cells_new wr _ _
    case c2 => exact one_one _
    case c3 => unfold maxLen; omega
    case c4 => omega
    case c5 => have := HB.out.size; simp; omega
    ·intro v' w2 hown' hgrow hnil
     have HW2 := hid hown'
     have HG2 := hid hgrow
     have HNil := hid hnil
     have HOy := hid hown
     clear hown' hgrow hown hnil hal
     go_wp2
     go_roundw
     case measure => simp [intOf]; omega
     case rel =>
      refine ⟨k + 1, by omega, by go_num, ?_, ?_, fun e => by first | exact HNil.out e | exact HNN.out (HNil.out.1 e).1⟩
      ·rw [HX.out, HE.out, List.map_append, List.length_append, HAL.out, ← HYS.out]; exact HW2.out
      ·refine (HB.out.alloc HB.out.size _).grown HG2.out (by have := HB.out.size; simp; omega) ?_
       intro q hq
       exact (HOy.out.lt q hq).1
   ·have HP := hid hg
    have HE : Hid (esc c = [92, 120, dg (c.toNat / 16), dg (c.toNat % 16)]) := hid (by unfold esc; rw [if_neg hno, if_neg h10, if_neg h9, if_neg (by rw [hg]; decide)])
    have q0 := c.toNat_lt
    obtain ⟨m, hm⟩ : ∃ m, c.toNat = m := ⟨_, rfl⟩
    have HGc : Hid (∀ w0, Calls Tryz.prog 47 #[.int .u8 (m : Int)] w0 fun e w' => e = .returned (.bool false) ∧ w0 = w') := hid (fun w0 => by rw [← hm]; exact Good_q c false w0 HP.out)
    rw [hm] at q0 HE m34 m92 m10 m9
    obtain ⟨u, hu⟩ : ∃ u, m / 16 = u := ⟨_, rfl⟩
    obtain ⟨lo, hl⟩ : ∃ lo, m % 16 = lo := ⟨_, rfl⟩
    have f1 : (m : Int) / 16 = (u : Int) := by omega
    have f2 : (m : Int) % 16 = (lo : Int) := by omega
    have f3 : (m : Int).tdiv 16 = (u : Int) := by rw [Int.tdiv_eq_ediv_of_nonneg (by omega)]; omega
    have f4 : (m : Int).tmod 16 = (lo : Int) := by rw [Int.tmod_eq_emod_of_nonneg (by omega)]; omega
    have f5 : IntKind.u8.wrap (u : Int) = (u : Int) := wrap8 (by omega) (by omega)
    have f6 : IntKind.u8.wrap (lo : Int) = (lo : Int) := wrap8 (by omega) (by omega)
    rw [hu, hl] at HE
    obtain ⟨cu, hcu⟩ : ∃ cu, dg u = cu := ⟨_, rfl⟩
    obtain ⟨cl, hcl⟩ : ∃ cl, dg lo = cl := ⟨_, rfl⟩
    have HU1 : Hid (u < 16 ∧ dg u = cu) := hid ⟨by omega, hcu⟩
    have HU2 : Hid (lo < 16 ∧ dg lo = cl) := hid ⟨by omega, hcl⟩
    rw [hcu, hcl] at HE
    clear h34 h92 h10 h9 hno hg hu hl hcu hcl
    obtain ⟨YS, hYS⟩ : ∃ YS, YS = (accL s.data.toList k).map encB := ⟨_, rfl⟩
    rw [← hYS] at hown
    have HYS := hid hYS
    obtain ⟨al, hal2⟩ : ∃ al, (accL s.data.toList k).length = al := ⟨_, rfl⟩
    rw [hal2] at hown hal
    have HAL := hid hal2
    clear hYS hal2
    go_wp2_with (first
     | (go_at_call 47; refine (HGc.out _).mono ?_; rintro e w' ⟨rfl, rfl⟩)
     | (go_at_call 48; refine (digit_x _ _ _ (by first | exact HU1 | exact HU2)).mono ?_; rintro e w' ⟨rfl, rfl⟩)
     | (at_builtin; refine wpList_append_own _ rfl _ _ 40 rfl w.heap.size 5 i0 _ 1 1 Tryz.underlying40 hi hz0 hz1 hz2 rfl (by decide) _ _ _ rfl (hown.alloc _) ⟨wr.heap.size, 0, none⟩ 4 4 [.int .u8 92, .int .u8 120, .int .u8 (cu.toNat : Int), .int .u8 (cl.toNat : Int)] rfl rfl ?c1 ?c2 ?c3 ?c4 ?c5 ?_))
    case c1 => exact cells_new wr _ _
    case c2 => exact four_one _ _ _ _
    case c3 => unfold maxLen; omega
    case c4 => omega
    case c5 => have := HB.out.size; simp; omega
    ·intro v' w2 hown' hgrow hnil
     have HW2 := hid hown'
     have HG2 := hid hgrow
     have HNil := hid hnil
     have HOy := hid hown
     clear hown' hgrow hown hnil hal
     go_wp2
     go_roundw
     case measure => simp [intOf]; omega
     case rel =>
      refine ⟨k + 1, by omega, by go_num, ?_, ?_, fun e => by first | exact HNil.out e | exact HNN.out (HNil.out.1 e).1⟩
      ·rw [HX.out, HE.out, List.map_append, List.length_append, HAL.out, ← HYS.out]; exact HW2.out
      ·refine (HB.out.alloc HB.out.size _).grown HG2.out (by have := HB.out.size; simp; omega) ?_
       intro q hq
       exact (HOy.out.lt q hq).1
  ·obtain rfl : k = n := by omega
   have HE := hid (accL_end (l := s.data.toList) (k := k) (by rw [HLEN.out]; exact Nat.le_refl _))
   have HO := hid hown
   obtain ⟨YS, hYS⟩ : ∃ YS, YS = (accL s.data.toList k).map encB := ⟨_, rfl⟩
   rw [← hYS] at hown
   have HYS := hid hYS
   obtain ⟨al, hal2⟩ : ∃ al, (accL s.data.toList k).length = al := ⟨_, rfl⟩
   rw [hal2] at hown hal
   have HAL := hid hal2
   clear hYS hal2
   have hHb := HB.out.size
   go_wp2_with (at_builtin; refine wpList_append_own _ rfl _ _ 40 rfl w.heap.size 5 i0 _ 1 1 Tryz.underlying40 hi hz0 hz1 hz2 rfl (by decide) _ _ _ rfl (hown.alloc _) ⟨wr.heap.size, 0, none⟩ 1 1 [.int .u8 34] rfl rfl ?c1 ?c2 ?c3 ?c4 ?c5 ?_)
   case c1 => exact cells_new wr _ _
   case c2 => exact one_one _
   case c3 => unfold maxLen; omega
   case c4 => omega
   case c5 => have := HB.out.size; simp; omega
   intro v4 w4 hown4 hgrow4 hnil4
   have HB4 : Hid (Below w.heap.size w w4) := hid ((HB.out.alloc HB.out.size _).grown hgrow4 (by simp; omega) (by intro q hq; exact (HO.out.lt q hq).1))
   have hown5 : w4.ownsRow w.heap.size 5 1 v4 (al + 1) ((dblL s.data.toList).map encB) := by
    rw [← HE.out, map_snoc, ← HYS.out]; exact hown4
   obtain ⟨g, cap, hv, hcv⟩ := own_conv hown5 (fun e => by first | exact hnil4 e | exact absurd (hnil4.1 e).2 (by decide))
   subst hv
   have hDD : (⟨(dblL s.data.toList).toArray⟩ : ByteArray) = D := mk_of HD.out
   rw [hDD] at hcv
   clear hown hown4 hown5 hgrow4 hnil4 hDD hal
   go_wp2
   go_ret
   exact ⟨rfl, HB4.out⟩
end
end Go.Proofs.YtmdgpejedbkkdaaGreatDoor
