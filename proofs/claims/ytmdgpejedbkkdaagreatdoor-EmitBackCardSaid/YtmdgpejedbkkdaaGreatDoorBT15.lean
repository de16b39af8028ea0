/- QuoAppEsc, QuoDouble, RefNod2, RefEmi1, RefEmi2, RefEmi3, RefNod3, RefFlo1 -/
import Derived.Deep.LoopGhost
import Derived.StillTailTactics
import Derived.Test.YtmdgpejedbkkdaaGreatDoorBT12
import Derived.Test.YtmdgpejedbkkdaaGreatDoorBT13
import Derived.Test.YtmdgpejedbkkdaaGreatDoorBT14
import Derived.Test.YtmdgpejedbkkdaaGreatDoorBT2
import Derived.Test.YtmdgpejedbkkdaaGreatDoorBT6
import Derived.Test.YtmdgpejedbkkdaaGreatDoorBT8
import Derived.Test.YtmdgpejedbkkdaaGreatDoorBT9
set_option linter.unusedVariables false
set_option linter.unusedSimpArgs false
set_option maxRecDepth 100000
set_option maxHeartbeats 16000000
open Go.Lib (hid)
namespace Go.Proofs.YtmdgpejedbkkdaaGreatDoor
section
open Go.RowKit Go.Sort
open Q6
theorem step_append_own {P : Program} {ops : Array Oper} {o : Oper} {a : Act} {w : World} {K : Act → World → Prop} {Q : Exit → Act → World → Prop} {E : Prop} (hg : o.guard = none) (s x : Operand) (t : TypeId)
  (ho : o.op = .call { callee := .builtin .append, args := #[s, x], argTypes := #[t, t] })
  (base : Nat) (e : TypeId) (i : TypeInfo) (z : Value) (size bytes : Nat) (ht : P.underlying t = some (.slice e)) (hi : P.info? e = some i) (hz : i.zero = some z)
  (hsize : i.size = size) (hby : i.bytes = bytes) (hzs : z.cells.size = size) (hsz : 0 < size)
  (v : Value) (n : Nat) (xs : List Value) (hs : a.eval s = v) (hown : w.ownsRow base e size v n xs)
  (ad : Addr) (m c : Nat) (news : List Value) (hx : a.eval x = .slice (some ad) m c) (hl : news.length = m * size) (hnews : ∀ j u, news[j]? = some u → w.cell? (ad.add j) = some u) (h1 : ∀ u ∈ news, u.oneCell' = true)
  (h63 : n + m ≤ maxLen) (hbytes : (n + m) * bytes ≤ 140737488355328) (hbase : base ≤ w.heap.size)
  (h : ∀ v' w', w'.ownsRow base e size v' (n + m) (xs ++ news) → w.grownBy w' v.ownBlock → (v' = .slice none 0 0 ↔ v = .slice none 0 0 ∧ m = 0) → K (a.put o.dst v') w') :
  if Region.wanted o (yielded ops a.tmps) = true then Oper.wp P o a w K Q else E := by
 rw [if_pos (by simp [Region.wanted, hg])]
 exact wp_append_own w s x t ho base e i z size bytes ht hi hz hsize hby hzs hsz v n xs hs hown ad m c news hx hl hnews h1 h63 hbytes hbase h
theorem dig_at (x : Nat) (h : x < 16) : (⟨#[48, 49, 50, 51, 52, 53, 54, 55, 56, 57, 97, 98, 99, 100, 101, 102]⟩ : ByteArray)[x]'h = dg x := by
 have hx : x = 0 ∨ x = 1 ∨ x = 2 ∨ x = 3 ∨ x = 4 ∨ x = 5 ∨ x = 6 ∨ x = 7 ∨ x = 8 ∨ x = 9 ∨ x = 10 ∨ x = 11 ∨ x = 12 ∨ x = 13 ∨ x = 14 ∨ x = 15 := by omega
 rcases hx with rfl | rfl | rfl | rfl | rfl | rfl | rfl | rfl | rfl | rfl | rfl | rfl | rfl | rfl | rfl | rfl <;> rfl
theorem u8_and15 : ∀ x : Fin 256, bits .and .u8 (x.val : Int) 15 = ((x.val % 16 : Nat) : Int) := by decide +kernel
theorem esc_own {w w' : World} {base n m : Nat} {v v' : Value} {l E : List UInt8} {ys : List Value} (hown : w.ownsRow base 5 1 v n (l.map encB)) (hw : w'.ownsRow base 5 1 v' (n + m) (l.map encB ++ ys)) (hE : E.map encB = ys) (hm : E.length = m) :
  w'.ownsRow base 5 1 v' (l ++ E).length ((l ++ E).map encB) := by
 rw [List.map_append, hE, List.length_append, own_len hown, hm]; exact hw
theorem appesc_quo (v : Value) (l : List UInt8) (n : Nat) (c : UInt8) (base : Nat) (w : World) (hown : w.ownsRow base 5 1 v n (l.map encB)) (hb : base ≤ w.heap.size) (hn : n ≤ 8000000) (h1 : c = 34 ∨ c = 92) :
  Calls Tryz.prog 45 #[v, .int .u8 c.toNat] w fun e w' => ∃ v', e = .returned v' ∧ w'.ownsRow base 5 1 v' (l ++ esc c).length ((l ++ esc c).map encB) ∧ Below base w w' ∧ v' ≠ .slice none 0 0 := by
 obtain ⟨i0, hi, hz0, hz1, hz2⟩ := infoB
 have HE : Hid (esc c = [92, c]) := hid (by unfold esc; rw [if_pos h1])
 rcases Bool.eq_false_or_eq_true (isC 34 c) with h34 | h34
 ·have m34 : ((c.toNat : Int) == 34) = true := by rw [isC_beq 34 c 34 rfl]; exact h34
  obtain ⟨YS, hYS⟩ : ∃ YS, YS = l.map encB := ⟨_, rfl⟩
  have HOl := hid hown
  rw [← hYS] at hown
  have HYS := hid hYS
  clear h1 h34 hYS
  go_enter Tryz.func45, Tryz.ntmps45
  go_wp2_with (first | (at_builtin; refine wpList_append_own _ rfl _ _ 40 rfl base 5 i0 _ 1 1 Tryz.underlying40 hi hz0 hz1 hz2 rfl (by decide) _ _ _ rfl (hown.alloc _) ⟨w.heap.size, 0, none⟩ 2 2 [.int .u8 92, .int .u8 (c.toNat : Int)] rfl rfl ?c1 ?c2 ?c3 ?c4 ?c5 ?_))
  case c1 => exact cells_new w _ _
  case c2 => exact two_one _ _
  case c3 => unfold maxLen; omega
  case c4 => omega
  case c5 => simp; omega
  ·intro v' w2 hown' hgrow hnil
   have HW2 := hid hown'
   have HG2 := hid hgrow
   have HNil := hid hnil
   have HOy := hid hown
   clear hown' hgrow hown hnil
   go_wp2
   go_ret
   refine ⟨_, rfl, esc_own (m := 2) HOl.out (by rw [← HYS.out]; exact HW2.out) (by rw [HE.out]; rfl) (by rw [HE.out]; rfl), ?_, fun e => by first | exact HNil.out e | exact absurd (HNil.out.1 e).2 (by decide)⟩
   refine (((Below.refl base w).alloc hb _)).grown HG2.out (by simp; omega) ?_
   intro q hq
   exact (HOy.out.lt q hq).1
 ·have m34 : ((c.toNat : Int) == 34) = false := by rw [isC_beq 34 c 34 rfl]; exact h34
  have m92 : ((c.toNat : Int) == 92) = true := by rw [isC_beq 92 c 92 rfl]; exact isC_iff.2 (h1.resolve_left (fun e => by rw [isC_iff.2 e] at h34; cases h34))
  obtain ⟨YS, hYS⟩ : ∃ YS, YS = l.map encB := ⟨_, rfl⟩
  have HOl := hid hown
  rw [← hYS] at hown
  have HYS := hid hYS
  clear h1 h34 hYS
  go_enter Tryz.func45, Tryz.ntmps45
  go_wp2_with (first | (at_builtin; refine wpList_append_own _ rfl _ _ 40 rfl base 5 i0 _ 1 1 Tryz.underlying40 hi hz0 hz1 hz2 rfl (by decide) _ _ _ rfl (hown.alloc _) ⟨w.heap.size, 0, none⟩ 2 2 [.int .u8 92, .int .u8 (c.toNat : Int)] rfl rfl ?c1 ?c2 ?c3 ?c4 ?c5 ?_))
  case c1 => exact cells_new w _ _
  case c2 => exact two_one _ _
  case c3 => unfold maxLen; omega
  case c4 => omega
  case c5 => simp; omega
  ·intro v' w2 hown' hgrow hnil
   have HW2 := hid hown'
   have HG2 := hid hgrow
   have HNil := hid hnil
   have HOy := hid hown
   clear hown' hgrow hown hnil
   go_wp2
   go_ret
   refine ⟨_, rfl, esc_own (m := 2) HOl.out (by rw [← HYS.out]; exact HW2.out) (by rw [HE.out]; rfl) (by rw [HE.out]; rfl), ?_, fun e => by first | exact HNil.out e | exact absurd (HNil.out.1 e).2 (by decide)⟩
   refine (((Below.refl base w).alloc hb _)).grown HG2.out (by simp; omega) ?_
   intro q hq
   exact (HOy.out.lt q hq).1
theorem appesc_nl (v : Value) (l : List UInt8) (n : Nat) (c : UInt8) (base : Nat) (w : World) (hown : w.ownsRow base 5 1 v n (l.map encB)) (hb : base ≤ w.heap.size) (hn : n ≤ 8000000) (h1 : c = 10) :
  Calls Tryz.prog 45 #[v, .int .u8 c.toNat] w fun e w' => ∃ v', e = .returned v' ∧ w'.ownsRow base 5 1 v' (l ++ esc c).length ((l ++ esc c).map encB) ∧ Below base w w' ∧ v' ≠ .slice none 0 0 := by
 obtain ⟨i0, hi, hz0, hz1, hz2⟩ := infoB
 have HE : Hid (esc c = [92, 110]) := hid (by subst h1; rfl)
 have m34 : ((c.toNat : Int) == 34) = false := by rw [isC_beq 34 c 34 rfl]; exact Bool.eq_false_iff.2 (fun e => absurd (h1.symm.trans (isC_iff.1 e)) (by decide))
 have m92 : ((c.toNat : Int) == 92) = false := by rw [isC_beq 92 c 92 rfl]; exact Bool.eq_false_iff.2 (fun e => absurd (h1.symm.trans (isC_iff.1 e)) (by decide))
 have m10 : ((c.toNat : Int) == 10) = true := by rw [isC_beq 10 c 10 rfl]; exact isC_iff.2 h1
 obtain ⟨YS, hYS⟩ : ∃ YS, YS = l.map encB := ⟨_, rfl⟩
 have HOl := hid hown
 rw [← hYS] at hown
 have HYS := hid hYS
 clear h1 hYS
 go_enter Tryz.func45, Tryz.ntmps45
 go_wp2_with (first | (at_builtin; refine wpList_append_own _ rfl _ _ 40 rfl base 5 i0 _ 1 1 Tryz.underlying40 hi hz0 hz1 hz2 rfl (by decide) _ _ _ rfl (hown.alloc _) ⟨w.heap.size, 0, none⟩ 2 2 [.int .u8 92, .int .u8 110] rfl rfl ?c1 ?c2 ?c3 ?c4 ?c5 ?_))
 case c1 => exact cells_new w _ _
 case c2 => exact two_one _ _
 case c3 => unfold maxLen; omega
 case c4 => omega
 case c5 => simp; omega
 ·intro v' w2 hown' hgrow hnil
  have HW2 := hid hown'
  have HG2 := hid hgrow
  have HNil := hid hnil
  have HOy := hid hown
  clear hown' hgrow hown hnil
  go_wp2
  go_ret
  refine ⟨_, rfl, esc_own (m := 2) HOl.out (by rw [← HYS.out]; exact HW2.out) (by rw [HE.out]; rfl) (by rw [HE.out]; rfl), ?_, fun e => by first | exact HNil.out e | exact absurd (HNil.out.1 e).2 (by decide)⟩
  refine (((Below.refl base w).alloc hb _)).grown HG2.out (by simp; omega) ?_
  intro q hq
  exact (HOy.out.lt q hq).1
theorem appesc_tab (v : Value) (l : List UInt8) (n : Nat) (c : UInt8) (base : Nat) (w : World) (hown : w.ownsRow base 5 1 v n (l.map encB)) (hb : base ≤ w.heap.size) (hn : n ≤ 8000000) (h1 : c = 9) :
  Calls Tryz.prog 45 #[v, .int .u8 c.toNat] w fun e w' => ∃ v', e = .returned v' ∧ w'.ownsRow base 5 1 v' (l ++ esc c).length ((l ++ esc c).map encB) ∧ Below base w w' ∧ v' ≠ .slice none 0 0 := by
 obtain ⟨i0, hi, hz0, hz1, hz2⟩ := infoB
 have HE : Hid (esc c = [92, 116]) := hid (by subst h1; rfl)
 have m34 : ((c.toNat : Int) == 34) = false := by rw [isC_beq 34 c 34 rfl]; exact Bool.eq_false_iff.2 (fun e => absurd (h1.symm.trans (isC_iff.1 e)) (by decide))
 have m92 : ((c.toNat : Int) == 92) = false := by rw [isC_beq 92 c 92 rfl]; exact Bool.eq_false_iff.2 (fun e => absurd (h1.symm.trans (isC_iff.1 e)) (by decide))
 have m10 : ((c.toNat : Int) == 10) = false := by rw [isC_beq 10 c 10 rfl]; exact Bool.eq_false_iff.2 (fun e => absurd (h1.symm.trans (isC_iff.1 e)) (by decide))
 have m9 : ((c.toNat : Int) == 9) = true := by rw [isC_beq 9 c 9 rfl]; exact isC_iff.2 h1
 obtain ⟨YS, hYS⟩ : ∃ YS, YS = l.map encB := ⟨_, rfl⟩
 have HOl := hid hown
 rw [← hYS] at hown
 have HYS := hid hYS
 clear h1 hYS
 go_enter Tryz.func45, Tryz.ntmps45
 go_wp2_with (first | (at_builtin; refine wpList_append_own _ rfl _ _ 40 rfl base 5 i0 _ 1 1 Tryz.underlying40 hi hz0 hz1 hz2 rfl (by decide) _ _ _ rfl (hown.alloc _) ⟨w.heap.size, 0, none⟩ 2 2 [.int .u8 92, .int .u8 116] rfl rfl ?c1 ?c2 ?c3 ?c4 ?c5 ?_))
 case c1 => exact cells_new w _ _
 case c2 => exact two_one _ _
 case c3 => unfold maxLen; omega
 case c4 => omega
 case c5 => simp; omega
 ·intro v' w2 hown' hgrow hnil
  have HW2 := hid hown'
  have HG2 := hid hgrow
  have HNil := hid hnil
  have HOy := hid hown
  clear hown' hgrow hown hnil
  go_wp2
  go_ret
  refine ⟨_, rfl, esc_own (m := 2) HOl.out (by rw [← HYS.out]; exact HW2.out) (by rw [HE.out]; rfl) (by rw [HE.out]; rfl), ?_, fun e => by first | exact HNil.out e | exact absurd (HNil.out.1 e).2 (by decide)⟩
  refine (((Below.refl base w).alloc hb _)).grown HG2.out (by simp; omega) ?_
  intro q hq
  exact (HOy.out.lt q hq).1
theorem appesc_good (v : Value) (l : List UInt8) (n : Nat) (c : UInt8) (base : Nat) (w : World) (hown : w.ownsRow base 5 1 v n (l.map encB)) (hb : base ≤ w.heap.size) (hn : n ≤ 8000000) (h1 : ¬ (c = 34 ∨ c = 92)) (h2 : c ≠ 10) (h3 : c ≠ 9) (h4 : good c = true) :
  Calls Tryz.prog 45 #[v, .int .u8 c.toNat] w fun e w' => ∃ v', e = .returned v' ∧ w'.ownsRow base 5 1 v' (l ++ esc c).length ((l ++ esc c).map encB) ∧ Below base w w' ∧ v' ≠ .slice none 0 0 := by
 obtain ⟨i0, hi, hz0, hz1, hz2⟩ := infoB
 have HE : Hid (esc c = [c]) := hid (by unfold esc; rw [if_neg h1, if_neg h2, if_neg h3, if_pos h4])
 have m34 : ((c.toNat : Int) == 34) = false := by rw [isC_beq 34 c 34 rfl]; exact Bool.eq_false_iff.2 (fun e => h1 (.inl (isC_iff.1 e)))
 have m92 : ((c.toNat : Int) == 92) = false := by rw [isC_beq 92 c 92 rfl]; exact Bool.eq_false_iff.2 (fun e => h1 (.inr (isC_iff.1 e)))
 have m10 : ((c.toNat : Int) == 10) = false := by rw [isC_beq 10 c 10 rfl]; exact Bool.eq_false_iff.2 (fun e => h2 (isC_iff.1 e))
 have m9 : ((c.toNat : Int) == 9) = false := by rw [isC_beq 9 c 9 rfl]; exact Bool.eq_false_iff.2 (fun e => h3 (isC_iff.1 e))
 have HP := hid h4
 obtain ⟨YS, hYS⟩ : ∃ YS, YS = l.map encB := ⟨_, rfl⟩
 have HOl := hid hown
 rw [← hYS] at hown
 have HYS := hid hYS
 clear h1 h2 h3 h4 hYS
 go_enter Tryz.func45, Tryz.ntmps45
 go_wp2_with (first | (go_at_call 43; refine (printable_q c true _ HP.out).mono ?_; rintro e w' ⟨rfl, rfl⟩) | (at_builtin; refine wpList_append_own _ rfl _ _ 40 rfl base 5 i0 _ 1 1 Tryz.underlying40 hi hz0 hz1 hz2 rfl (by decide) _ _ _ rfl (hown.alloc _) ⟨w.heap.size, 0, none⟩ 1 1 [.int .u8 (c.toNat : Int)] rfl rfl ?c1 ?c2 ?c3 ?c4 ?c5 ?_))
 case c1 => exact cells_new w _ _
 case c2 => exact one_one _
 case c3 => unfold maxLen; omega
 case c4 => omega
 case c5 => simp; omega
 ·intro v' w2 hown' hgrow hnil
  have HW2 := hid hown'
  have HG2 := hid hgrow
  have HNil := hid hnil
  have HOy := hid hown
  clear hown' hgrow hown hnil
  go_wp2
  go_ret
  refine ⟨_, rfl, esc_own (m := 1) HOl.out (by rw [← HYS.out]; exact HW2.out) (by rw [HE.out]; rfl) (by rw [HE.out]; rfl), ?_, fun e => by first | exact HNil.out e | exact absurd (HNil.out.1 e).2 (by decide)⟩
  refine (((Below.refl base w).alloc hb _)).grown HG2.out (by simp; omega) ?_
  intro q hq
  exact (HOy.out.lt q hq).1
theorem appesc_hex (v : Value) (l : List UInt8) (n : Nat) (c : UInt8) (base : Nat) (w : World) (hown : w.ownsRow base 5 1 v n (l.map encB)) (hb : base ≤ w.heap.size) (hn : n ≤ 8000000) (h1 : ¬ (c = 34 ∨ c = 92)) (h2 : c ≠ 10) (h3 : c ≠ 9) (h4 : good c = false) :
  Calls Tryz.prog 45 #[v, .int .u8 c.toNat] w fun e w' => ∃ v', e = .returned v' ∧ w'.ownsRow base 5 1 v' (l ++ esc c).length ((l ++ esc c).map encB) ∧ Below base w w' ∧ v' ≠ .slice none 0 0 := by
 obtain ⟨i0, hi, hz0, hz1, hz2⟩ := infoB
 have HE : Hid (esc c = [92, 120, dg (c.toNat / 16), dg (c.toNat % 16)]) := hid (by unfold esc; rw [if_neg h1, if_neg h2, if_neg h3, if_neg (by rw [h4]; decide)])
 have m34 : ((c.toNat : Int) == 34) = false := by rw [isC_beq 34 c 34 rfl]; exact Bool.eq_false_iff.2 (fun e => h1 (.inl (isC_iff.1 e)))
 have m92 : ((c.toNat : Int) == 92) = false := by rw [isC_beq 92 c 92 rfl]; exact Bool.eq_false_iff.2 (fun e => h1 (.inr (isC_iff.1 e)))
 have m10 : ((c.toNat : Int) == 10) = false := by rw [isC_beq 10 c 10 rfl]; exact Bool.eq_false_iff.2 (fun e => h2 (isC_iff.1 e))
 have m9 : ((c.toNat : Int) == 9) = false := by rw [isC_beq 9 c 9 rfl]; exact Bool.eq_false_iff.2 (fun e => h3 (isC_iff.1 e))
 have HP := hid h4
 have q0 := c.toNat_lt
 have HAnd := hid (u8_and15 ⟨c.toNat, q0⟩)
 obtain ⟨m, hm⟩ : ∃ m, c.toNat = m := ⟨_, rfl⟩
 have f1 : ((m : Nat) : Int) / 16 = ((m / 16 : Nat) : Int) := by omega
 have f2 : bits .and .u8 (m : Int) 15 = ((m % 16 : Nat) : Int) := by rw [← hm]; exact HAnd.out
 obtain ⟨u, hu⟩ : ∃ u, m / 16 = u := ⟨_, rfl⟩
 obtain ⟨lo, hl⟩ : ∃ lo, m % 16 = lo := ⟨_, rfl⟩
 rw [hu] at f1
 rw [hl] at f2
 have u16 : u < 16 := by omega
 have l16 : lo < 16 := by omega
 have du := dig_at u u16
 have dl := dig_at lo l16
 rw [hm, hu, hl] at HE
 have u16z : (u : Int) < 16 := by omega
 have l16z : (lo : Int) < 16 := by omega
 rw [hm] at m34 m92 m10 m9
 have HM := hid hm
 obtain ⟨cu, hcu⟩ : ∃ cu, dg u = cu := ⟨_, rfl⟩
 obtain ⟨cl, hcl⟩ : ∃ cl, dg lo = cl := ⟨_, rfl⟩
 rw [hcu] at du HE
 rw [hcl] at dl HE
 obtain ⟨YS, hYS⟩ : ∃ YS, YS = l.map encB := ⟨_, rfl⟩
 have HOl := hid hown
 rw [← hYS] at hown
 have HYS := hid hYS
 clear h1 h2 h3 h4 hm hu hl HAnd hcu hcl hYS
 have hcallP := fun w0 => printable_q c false w0 HP.out
 rw [HM.out] at hcallP
 have HCP := hid hcallP
 clear hcallP
 rw [show (c.toNat : Int) = (m : Int) by rw [HM.out]]
 go_enter Tryz.func45, Tryz.ntmps45
 go_wp2_with (go_at_call 43; refine (HCP.out _).mono ?_; rintro e w' ⟨rfl, rfl⟩)
 go_region_law (refine step_append_own rfl _ _ 40 rfl base 5 i0 _ 1 1 Tryz.underlying40 hi hz0 hz1 hz2 rfl (by decide) _ _ _ rfl ((owns_drew hown).alloc _) ⟨w.heap.size, 0, none⟩ 4 4 [.int .u8 92, .int .u8 120, .int .u8 ((cu).toNat : Int), .int .u8 ((cl).toNat : Int)] rfl rfl ?c1 ?c2 ?c3 ?c4 ?c5 ?_; (case c1 => exact cells_new w.drew _ _); (case c2 => exact four_one _ _ _ _); (case c3 => (unfold maxLen; omega)); (case c4 => omega); (case c5 => (simp; omega)); intro v' w2 hown' hgrow hnil)
 all_goals
  have HW2 := hid hown'
  have HG2 := hid hgrow
  have HNil := hid hnil
  have HOy := hid hown
  clear hown' hgrow hown hnil
  go_wp2
  go_ret
  refine ⟨_, rfl, esc_own (m := 4) HOl.out (by rw [← HYS.out]; exact HW2.out) (by rw [HE.out]; rfl) (by rw [HE.out]; rfl), ?_, fun e => by first | exact HNil.out e | exact absurd (HNil.out.1 e).2 (by decide)⟩
  refine (((Below.refl base w).drew.alloc hb _)).grown HG2.out (by simp; omega) ?_
  intro q hq
  exact (HOy.out.lt q hq).1
theorem appesc_any (v : Value) (l : List UInt8) (n : Nat) (c : UInt8) (base : Nat) (w : World) (hown : w.ownsRow base 5 1 v n (l.map encB)) (hb : base ≤ w.heap.size) (hn : n ≤ 8000000) :
  Calls Tryz.prog 45 #[v, .int .u8 c.toNat] w fun e w' => ∃ v', e = .returned v' ∧ w'.ownsRow base 5 1 v' (l ++ esc c).length ((l ++ esc c).map encB) ∧ Below base w w' ∧ v' ≠ .slice none 0 0 := by
 by_cases h1 : c = 34 ∨ c = 92
 ·exact appesc_quo v l n c base w hown hb hn h1
 by_cases h2 : c = 10
 ·exact appesc_nl v l n c base w hown hb hn h2
 by_cases h3 : c = 9
 ·exact appesc_tab v l n c base w hown hb hn h3
 by_cases h4 : good c = true
 ·exact appesc_good v l n c base w hown hb hn h1 h2 h3 h4
 ·exact appesc_hex v l n c base w hown hb hn h1 h2 h3 (Bool.eq_false_iff.2 h4)
end
section
open Go.RowKit Go.Sort
open Q6
theorem esc_len (c : UInt8) : (esc c).length ≤ 4 := by
 unfold esc
 split
 ·show 2 ≤ 4; decide
 ·split
  ·show 2 ≤ 4; decide
  ·split
   ·show 2 ≤ 4; decide
   ·split
    ·show 1 ≤ 4; decide
    ·exact Nat.le_refl _
theorem escL_len (l : List UInt8) : (escL l).length ≤ 4 * l.length := by
 induction l with
 | nil => exact Nat.le_refl _
 | cons c l ih => rw [escL_cons, List.length_append, List.length_cons]; have := esc_len c; omega
theorem escL_app (l : List UInt8) (c : UInt8) : escL (l ++ [c]) = escL l ++ esc c := by
 induction l with
 | nil => show escL (c :: []) = _; rw [escL_cons]; show esc c ++ [] = [] ++ esc c; simp
 | cons b l ih => rw [List.cons_append, escL_cons, escL_cons, ih, List.append_assoc]
theorem take_snoc {l : List UInt8} {k : Nat} (h : k < l.length) : l.take (k + 1) = l.take k ++ [l.getD k 0] := by
 rw [List.take_succ_eq_append_getElem h, List.getD_eq_getElem?_getD, List.getElem?_eq_getElem h]; rfl
def accL (l : List UInt8) (k : Nat) : List UInt8 := 34 :: escL (l.take k)
theorem accL_snoc {l : List UInt8} {k : Nat} (h : k < l.length) : accL l (k + 1) = accL l k ++ esc (l.getD k 0) := by
 unfold accL; rw [take_snoc h, escL_app]; rfl
theorem accL_len (l : List UInt8) (k : Nat) : (accL l k).length ≤ 4 * l.length + 1 := by
 unfold accL
 rw [List.length_cons]
 have h1 := escL_len (l.take k)
 have h2 : (l.take k).length ≤ l.length := by rw [List.length_take]; exact Nat.min_le_right ..
 omega
theorem accL_end {l : List UInt8} {k : Nat} (h : l.length ≤ k) : accL l k ++ [34] = dblL l := by
 unfold accL dblL; rw [List.take_of_length_le h]
theorem Double_any (s : ByteArray) (w : World) (hs : s.size ≤ 1000000) (D : ByteArray) (hD : dblL s.data.toList = D.data.toList) :
  Calls Tryz.prog 26 #[.string s] w fun e w' => e = .returned (.string D) ∧ Below w.heap.size w w' := by
 obtain ⟨i0, hi, hz0, hz1, hz2⟩ := infoB
 have HD := hid hD
 clear hD
 obtain ⟨n, hn⟩ : ∃ n, s.size = n := ⟨_, rfl⟩
 have hlen : s.data.toList.length = n := by rw [← hn]; rfl
 have HLEN := hid hlen
 obtain ⟨w1, hmk, hown1, hgr1⟩ := run_make_own (P := Tryz.prog) w w.heap.size 40 5 i0 _ 1 Tryz.underlying40 hi hz0 hz1 .i64 .i64 (n + 2) (by rw [hz2]; omega) (by unfold maxLen; omega) (Nat.le_refl _)
 have hb1 : Below w.heap.size w w1 := (Below.refl _ _).grown hgr1 (Nat.le_refl _) (by intro p hp; cases hp)
 have HO1 := hid hown1
 have HB1 := hid hb1
 have h2n : ((n + 2 : Nat) : Int) = (n : Int) + 2 := by omega
 rw [h2n] at hmk
 clear hgr1 hb1 h2n hlen
 have hw2 : IntKind.i64.wrap ((n : Int) + 2) = (n : Int) + 2 := IntWalk.i64_in _ (by omega)
 have hsn : n ≤ 1000000 := by omega
 have hsz1 := HB1.out.size
 go_enter Tryz.func26, Tryz.ntmps26
 go_wp2_with (at_builtin; refine wpList_append_own _ rfl _ _ 40 rfl w.heap.size 5 i0 _ 1 1 Tryz.underlying40 hi hz0 hz1 hz2 rfl (by decide) _ _ _ rfl (hown1.alloc _) ⟨w1.heap.size, 0, none⟩ 1 1 [.int .u8 34] rfl rfl ?c1 ?c2 ?c3 ?c4 ?c5 ?_)
 case c1 => exact cells_new w1 _ _
 case c2 => exact one_one _
 case c3 => unfold maxLen; omega
 case c4 => omega
 case c5 => simp; omega
 intro v1 w2 hown2 hgrow2 hnil2
 have HO2 := hid hown2
 have HB2 : Hid (Below w.heap.size w w2) := hid ((HB1.out.alloc HB1.out.size _).grown hgrow2 (by simp; omega) (by intro q hq; exact (HO1.out.lt q hq).1))
 have HN2 : Hid (v1 ≠ .slice none 0 0) := hid (fun e => by first | exact hnil2 e | exact absurd (hnil2.1 e).2 (by decide))
 clear hown1 hown2 hgrow2 hnil2 hmk HO1 HB1 hsz1
 go_wp2
 go_loopw [3, 14] (fun sv si wr => ∃ k : Nat, k ≤ n ∧ si = .int .i64 (k : Int) ∧ wr.ownsRow w.heap.size 5 1 sv (accL s.data.toList k).length ((accL s.data.toList k).map encB) ∧ Below w.heap.size w wr ∧ sv ≠ .slice none 0 0) (fun _ si _ => n - (intOf si).toNat)
 case atStart => exact ⟨0, Nat.zero_le _, rfl, HO2.out, HB2.out, HN2.out⟩
 case round =>
  clear HO2 HB2 HN2
  obtain ⟨k, hk, rfl, hown, hbel, hnn⟩ := hrel
  have HNN := hid hnn
  have HB := hid hbel
  clear hbel hnn
  have hal := accL_len s.data.toList k
  rw [HLEN.out] at hal
  by_cases hlt : k < n
  ·have hks : k < s.size := by omega
   have hkl : k < s.data.toList.length := by rw [HLEN.out]; exact hlt
   have HX := hid (accL_snoc hkl)
   obtain ⟨c, hc⟩ : ∃ c, s[k]'hks = c := ⟨_, rfl⟩
   rw [getd s k hks, hc] at HX
   have hskz : (k : Int) < (n : Int) := by omega
   obtain ⟨u7, hu7⟩ : ∃ u, u = wr := ⟨_, rfl⟩
   have HC : Hid (∀ v, wr.ownsRow w.heap.size 5 1 v (accL s.data.toList k).length ((accL s.data.toList k).map encB) → Calls Tryz.prog 45 #[v, .int .u8 c.toNat] wr fun e w' => ∃ v', e = .returned v' ∧ w'.ownsRow w.heap.size 5 1 v' (accL s.data.toList (k + 1)).length ((accL s.data.toList (k + 1)).map encB) ∧ Below w.heap.size wr w' ∧ v' ≠ .slice none 0 0) := hid (fun v hv => by
    rw [HX.out]
    exact appesc_any v _ _ c w.heap.size wr hv HB.out.size (by omega))
   have HO := hid hown
   clear hkl hown hal hu7
   go_wp2_with (go_at_call 45; refine (HC.out _ HO.out).mono ?_; rintro e w3 ⟨v3, rfl, ho3, hb3, hn3⟩; have HO3 := hid ho3; have HB3 := hid hb3; have HN3 := hid hn3; clear ho3 hb3 hn3)
   go_roundw
   case measure => simp [intOf]; omega
   case rel => exact ⟨k + 1, by omega, by go_num, HO3.out, HB.out.trans HB3.out, HN3.out⟩
  ·obtain rfl : k = n := by omega
   have HE := hid (accL_end (l := s.data.toList) (k := k) (by rw [HLEN.out]; exact Nat.le_refl _))
   have HO := hid hown
   obtain ⟨YS, hYS⟩ : ∃ YS, YS = (accL s.data.toList k).map encB := ⟨_, rfl⟩
   rw [← hYS] at hown
   have HYS := hid hYS
   obtain ⟨al, hal2⟩ : ∃ al, (accL s.data.toList k).length = al := ⟨_, rfl⟩
   rw [hal2] at hown hal
   have HAL := hid hal2
   clear hYS hal2
   have hHb := HB.out.size
   go_wp2_with (at_builtin; refine wpList_append_own _ rfl _ _ 40 rfl w.heap.size 5 i0 _ 1 1 Tryz.underlying40 hi hz0 hz1 hz2 rfl (by decide) _ _ _ rfl (hown.alloc _) ⟨wr.heap.size, 0, none⟩ 1 1 [.int .u8 34] rfl rfl ?c1 ?c2 ?c3 ?c4 ?c5 ?_)
   case c1 => exact cells_new wr _ _
   case c2 => exact one_one _
   case c3 => unfold maxLen; omega
   case c4 => omega
   case c5 => simp; omega
   intro v4 w4 hown4 hgrow4 hnil4
   have HB4 : Hid (Below w.heap.size w w4) := hid ((HB.out.alloc HB.out.size _).grown hgrow4 (by simp; omega) (by intro q hq; exact (HO.out.lt q hq).1))
   have hown5 : w4.ownsRow w.heap.size 5 1 v4 (al + 1) ((dblL s.data.toList).map encB) := by
    rw [← HE.out, map_snoc, ← HYS.out]; exact hown4
   obtain ⟨g, cap, hv, hcv⟩ := own_conv hown5 (fun e => by first | exact hnil4 e | exact absurd (hnil4.1 e).2 (by decide))
   subst hv
   have hDD : (⟨(dblL s.data.toList).toArray⟩ : ByteArray) = D := mk_of HD.out
   rw [hDD] at hcv
   clear hown hown4 hown5 hgrow4 hnil4 hDD hal
   go_wp2
   go_ret
   exact ⟨rfl, HB4.out⟩
end
section
open Go.RowKit Go.Sort
open Nw N8
theorem ba_size (l : L8) : (ba l).size = l.length := by simp [ba, ByteArray.size]
theorem rd_slice {w : World} {v : Value} {l : List L8} (h : Rd w v l) : ∃ (a : Option Addr) (cap : Nat), v = .slice a l.length cap ∧ l.length ≤ cap ∧ cap ≤ maxLen := by
 obtain ⟨a, cap, hv, h1, h2, _⟩ := h
 exact ⟨a, cap, hv, h1, h2⟩
theorem rd_at {w : World} {a : Option Addr} {n cap : Nat} {l : List L8} (h : Rd w (.slice a n cap) l) (j : Nat) (hj : j < l.length) :
  ∃ b o, a = some ⟨b, o, none⟩ ∧ b < w.heap.size ∧ w.cell? ⟨b, o + j, none⟩ = some (.string (ba (l[j]'hj))) := by
 obtain ⟨a', cap', hv, h1, h2, h3⟩ := h
 have hAe : a = a' := by injection hv
 subst hAe
 rcases h3 with ⟨h3, _⟩ | ⟨b, o, h4, h5, h6⟩
 ·subst h3; cases hj
 ·exact ⟨b, o, h4, h5, h6 j hj⟩
theorem Boxed.keys {w0 w : World} {k : Int} {t : L8} {ks : List L8} {ds : List Nd} {c0 c1 c2 c3 : Value} (h : Boxed w0 w (.mk k t ks ds) c0 c1 c2 c3) : Rd w c2 ks := h.2.2.parts.2.2.1
theorem shortL_no : ∀ {ds : List Nd} {j : Nat} (h : j < ds.length), shortT (ds[j]'h) = false → shortL ds = false
 | d :: ds, 0, _, hs => by
  have hs' : shortT d = false := hs
  rw [shortL, hs']; rfl
 | d :: ds, j + 1, h, hs => by
  have hs' : shortT (ds[j]'(Nat.lt_of_succ_lt_succ h)) = false := hs
  rw [shortL, shortL_no _ hs', Bool.and_false]
theorem shortL_all : ∀ {ds : List Nd}, (∀ (j : Nat) (h : j < ds.length), shortT (ds[j]'h) = true) → shortL ds = true
 | [], _ => rfl
 | d :: ds, h => by
  have h0 : shortT d = true := h 0 (Nat.succ_pos _)
  rw [shortL, h0, shortL_all fun j hj => h (j + 1) (Nat.succ_lt_succ hj)]; rfl
theorem keys_no {ks : List L8} {j : Nat} (h : j < ks.length) (hl : 200 < (ks[j]'h).length) : (ks.all fun k => decide (k.length ≤ 200)) = false := by
 rw [Bool.eq_false_iff]
 intro e
 have := of_decide_eq_true (List.all_eq_true.1 e _ (List.getElem_mem h))
 omega
theorem keys_all {ks : List L8} (h : ∀ (j : Nat) (hj : j < ks.length), (ks[j]'hj).length ≤ 200) : (ks.all fun k => decide (k.length ≤ 200)) = true := by
 rw [List.all_eq_true]
 intro k hk
 obtain ⟨j, hj, rfl⟩ := List.mem_iff_getElem.1 hk
 exact decide_eq_true (h j hj)
end
section
open Go.RowKit Go.Sort
open Nw N8 Q6 F9 B10 E11
theorem str_of {a b : ByteArray} (h : a.data.toList = b.data.toList) : Ending.returned (.string a) = .returned (.string b) := by
 rw [show a = b by rw [← ba_of a, ← ba_of b, h]]
theorem noq_step {l : L8} {k : Nat} (hk : k < l.length) : noq (l.take (k + 1)) = (noq (l.take k) && !isQ (l.getD k 0)) := by
 unfold noq
 rw [List.take_add_one, List.all_append, List.getElem?_eq_getElem hk]
 simp [List.getD_eq_getElem?_getD, List.getElem?_eq_getElem hk]
end
section
open Go.RowKit Go.Sort
open Nw N8 Q6 F9 B10 E11
theorem bool_of {b c : Bool} (h : b = c) : Ending.returned (.bool c) = .returned (.bool b) := by rw [h]
end
section
open Go.RowKit Go.Sort
open Nw N8 Q6 F9 B10 E11
theorem app_list (x y : ByteArray) : (x ++ y).data.toList = x.data.toList ++ y.data.toList := by rw [ByteArray.data_append, Array.toList_append]
theorem depL_in {d : Nd} : ∀ {ds : List Nd}, d ∈ ds → depT d ≤ depL ds
 | e :: ds, h => by
  rw [depL]
  rcases List.mem_cons.1 h with rfl | h
  ·omega
  ·have := depL_in h; omega
theorem cntL_in {d : Nd} : ∀ {ds : List Nd}, d ∈ ds → cntT d ≤ cntL ds
 | e :: ds, h => by
  rw [cntL]
  rcases List.mem_cons.1 h with rfl | h
  ·omega
  ·have := cntL_in h; omega
theorem nd_shape {w : World} {d : Nd} {c0 c1 c2 c3 : Value} (h : NdW w d c0 c1 c2 c3) :
  ∃ (k : Int) (s : ByteArray) (a : Option Addr) (n c : Nat) (A : Option Addr) (m q : Nat), c0 = .int .i64 k ∧ c1 = .string s ∧ c2 = .slice a n c ∧ c3 = .slice A m q := by
 obtain ⟨k, t, ks, ds⟩ := d
 obtain ⟨rfl, rfl, hk, A, cap, rfl, _⟩ := h.parts
 obtain ⟨a, q, rfl, _⟩ := rd_slice hk
 exact ⟨_, _, _, _, _, _, _, _, rfl, rfl, rfl, rfl⟩
theorem text_all {M : Nat} {d : Nd} (h : allT M d) : d.text.length ≤ M := by
 obtain ⟨k, t, ks, ds⟩ := d
 rw [allT] at h
 exact h.1
end
section
open Go.RowKit Go.Sort
open Nw N8
theorem region_tail {P : Program} {id : Nat} {Q : Exit → Act → World → Prop} {a : Act} {w : World} {l : List Oper} (n : Nat) (hm : P.follows .mixedOrders = true) (hB : Region.lexTailB .any l.toArray n = true)
  (h : ∀ w9 : World, w9 = w.drew → wpStill P l.toArray w9 (fun a' => wpList P l.toArray Q (l.drop n) a' w9) (l.take n) a) : (Code.region id l.toArray true).wp P Q a w :=
 wp_region_still_tail n hm hB (h w.drew rfl)
def Boxed2 (w0 w : World) (d e : Nd) (c0 c1 c2 c3 u0 u1 u2 u3 : Value) : Prop :=
 Below w0.heap.size w0 w ∧ Row4 w w0.heap.size 25 c0 c1 c2 c3 ∧ Row4 w (w0.heap.size + 1) 25 u0 u1 u2 u3 ∧ NdW w d c0 c1 c2 c3 ∧ NdW w e u0 u1 u2 u3
theorem Boxed2.make {w : World} {d e : Nd} {c0 c1 c2 c3 u0 u1 u2 u3 : Value} (h : NdW w d c0 c1 c2 c3) (g : NdW w e u0 u1 u2 u3) :
  Boxed2 w ((w.alloc (.cells #[c0, c1, c2, c3] 25)).alloc (.cells #[u0, u1, u2, u3] 25)) d e c0 c1 c2 c3 u0 u1 u2 u3 := by
 have hb1 : Below w.heap.size w (w.alloc (.cells #[c0, c1, c2, c3] 25)) := (Below.refl _ _).alloc (Nat.le_refl _) _
 have hb : Below w.heap.size w ((w.alloc (.cells #[c0, c1, c2, c3] 25)).alloc (.cells #[u0, u1, u2, u3] 25)) := hb1.alloc hb1.size _
 refine ⟨hb, (Row4.make w _ _ _ _ _).alloc _, ?_, h.below hb, g.below hb⟩
 have := Row4.make (w.alloc (.cells #[c0, c1, c2, c3] 25)) 25 u0 u1 u2 u3
 rw [show (w.alloc (.cells #[c0, c1, c2, c3] 25)).heap.size = w.heap.size + 1 by simp] at this
 exact this
theorem Boxed2.go {w0 w w' : World} {d e : Nd} {c0 c1 c2 c3 u0 u1 u2 u3 : Value} (h : Boxed2 w0 w d e c0 c1 c2 c3 u0 u1 u2 u3) (hb : Below w.heap.size w w') : Boxed2 w0 w' d e c0 c1 c2 c3 u0 u1 u2 u3 :=
 ⟨belowNext h.1 hb, h.2.1.below hb h.2.1.lt, h.2.2.1.below hb h.2.2.1.lt, h.2.2.2.1.below hb, h.2.2.2.2.below hb⟩
theorem below_drew (w : World) : Below w.heap.size w w.drew := ⟨rfl, rfl, rfl, Nat.le_refl _, fun _ _ => rfl⟩
theorem sameL_ne {ds es : List Nd} (h : ds.length ≠ es.length) : sameL ds es = false := Bool.eq_false_iff.2 fun e => h (sameL_len e)
theorem sameL_no : ∀ {ds es : List Nd} {j : Nat} (h : j < ds.length) (g : j < es.length), sameT (ds[j]'h) (es[j]'g) = false → sameL ds es = false
 | d :: ds, e :: es, 0, _, _, hs => by
  have hs' : sameT d e = false := hs
  rw [sameL, hs']; rfl
 | d :: ds, e :: es, j + 1, h, g, hs => by
  have hs' : sameT (ds[j]'(Nat.lt_of_succ_lt_succ h)) (es[j]'(Nat.lt_of_succ_lt_succ g)) = false := hs
  rw [sameL, sameL_no _ _ hs', Bool.and_false]
theorem sameL_all : ∀ {ds es : List Nd}, ds.length = es.length → (∀ (j : Nat) (h : j < ds.length) (g : j < es.length), sameT (ds[j]'h) (es[j]'g) = true) → sameL ds es = true
 | [], [], _, _ => rfl
 | d :: ds, e :: es, hl, h => by
  have h0 : sameT d e = true := h 0 (Nat.succ_pos _) (Nat.succ_pos _)
  rw [sameL, h0, sameL_all (Nat.succ.inj hl) fun j hj gj => h (j + 1) (Nat.succ_lt_succ hj) (Nat.succ_lt_succ gj)]; rfl
 | [], _ :: _, hl, _ => by cases hl
 | _ :: _, [], hl, _ => by cases hl
theorem RSame_q (v u : Value) (l m : List L8) (w : World) (h : Rd w v l) (k : Rd w u m) (b : Bool) (hb : decide (l = m) = b) :
  Calls Tryz.prog 32 #[v, u] w fun e w' => e = .returned (.bool b) ∧ Below w.heap.size w w' := by
 subst hb; exact RSame_any v u l m w h k
theorem toList_beq {x y : L8} (h : x ≠ y) : ((ba x).toList == (ba y).toList) = false := by rw [ba_list, ba_list]; exact beq_eq_false_iff_ne.2 h
theorem toList_bne {x y : L8} (h : x ≠ y) : ((ba x).toList != (ba y).toList) = true := by rw [ba_list, ba_list]; exact bne_iff_ne.2 h
theorem RSameT_any (N : Nat) : ∀ (d e : Nd), cntT d ≤ N → ∀ (r : Bool), sameT d e = r → ∀ (c0 c1 c2 c3 u0 u1 u2 u3 : Value) (w : World), NdW w d c0 c1 c2 c3 → NdW w e u0 u1 u2 u3 →
  Calls Tryz.prog 14 #[.agg #[c0, c1, c2, c3], .agg #[u0, u1, u2, u3]] w fun x w' => x = .returned (.bool r) ∧ Below w.heap.size w w' := by
 induction N with
 | zero => intro d _ h; have := cntT_pos d; omega
 | succ N ih =>
  intro d e hN r hr c0 c1 c2 c3 u0 u1 u2 u3 w hd he
  cases d with
  | mk k t ks ds =>
   cases e with
   | mk k' t' ks' es =>
    have HB0 := hid (Boxed2.make hd he)
    obtain ⟨rfl, rfl, hks, A, cap, rfl, hcap, hm, _, _⟩ := hd.parts
    obtain ⟨rfl, rfl, hks', A', cap', rfl, hcap', hm', _, _⟩ := he.parts
    have HIH := hid ih
    have hcN : cntL ds ≤ N := by rw [cntT] at hN; omega
    have HCN := hid hcN
    rw [sameT] at hr
    have HR0 := hid hr
    obtain ⟨n, hn⟩ : ∃ n, ds.length = n := ⟨_, rfl⟩
    have HN := hid hn
    obtain ⟨n', hn'⟩ : ∃ n', es.length = n' := ⟨_, rfl⟩
    have HN' := hid hn'
    rw [hn] at HB0 hcap ⊢
    rw [hn'] at HB0 hcap' ⊢
    unfold maxLen at hm hm'
    have hn63 : n ≤ 9223372036854775807 := by omega
    have hn63' : n' ≤ 9223372036854775807 := by omega
    clear ih hd he hn hn' hcN hN hr hks hks'
    by_cases hk : k = k'
    ·subst hk
     have p1 : (k != k) = false := by simp
     by_cases ht : t = t'
     ·subst ht
      obtain ⟨T, hT⟩ : ∃ T, ba t = T := ⟨_, rfl⟩
      rw [hT] at HB0 ⊢
      have p2 : (T.toList != T.toList) = false := by simp
      by_cases hkk : ks = ks'
      ·subst hkk
       have HKS := hid (fun W hW hW' => RSame_q c2 u2 ks ks W hW hW' true (decide_eq_true rfl))
       by_cases hnn : n = n'
       ·subst hnn
        clear hT
        go_enter Tryz.func14, Tryz.ntmps14
        obtain ⟨x0, x1, x2, x3⟩ := HB0.out.2.1.cells
        obtain ⟨y0, y1, y2, y3⟩ := HB0.out.2.2.1.cells
        go_wp2_with fail
        refine (HKS.out _ HB0.out.2.2.2.1.parts.2.2.1 HB0.out.2.2.2.2.parts.2.2.1).mono ?_
        rintro x w1 ⟨rfl, hb1⟩
        have HB1 := hid (HB0.out.go hb1)
        clear hb1 x0 x1 x2 x3 y0 y1 y2 y3
        obtain ⟨x0, x1, x2, x3⟩ := HB1.out.2.1.cells
        obtain ⟨y0, y1, y2, y3⟩ := HB1.out.2.2.1.cells
        go_wp2
        clear x0 x1 x2 x3 y0 y1 y2 y3
        go_loopw [5] (fun si wr => ∃ j : Nat, j ≤ n ∧ si = .int .i64 (j : Int) ∧ Hid (Boxed2 w wr (.mk k t ks ds) (.mk k t ks es) (.int .i64 k) (.string T) c2 (.slice A n cap) (.int .i64 k) (.string T) u2 (.slice A' n cap')) ∧ Hid (∀ (l : Nat) (h : l < ds.length) (g : l < es.length), l < j → sameT (ds[l]'h) (es[l]'g) = true)) (fun si _ => n - (intOf si).toNat)
        case atStart => exact ⟨0, Nat.zero_le _, rfl, HB1, hid fun i _ _ h => absurd h (Nat.not_lt_zero _)⟩
        case round =>
         clear HB0 HB1
         obtain ⟨j, hj, rfl, HB, HK⟩ := hrel
         by_cases hlt : j < n
         ·have hjl : j < ds.length := by rw [HN.out]; exact hlt
          have hjl' : j < es.length := by rw [HN'.out]; exact hlt
          have hjz : (j : Int) < (n : Int) := by omega
          have hck : cntT (ds[j]'hjl) ≤ cntL ds := cntL_mem (List.getElem_mem hjl)
          have hcall := HIH.out (ds[j]'hjl) (es[j]'hjl') (by have := HCN.out; omega)
          obtain ⟨z0, z1, z2, z3⟩ := HB.out.2.1.cells
          go_wp2
          refine region_tail 10 (by kernel_rfl) (by kernel_rfl) ?_
          intro w9 hw9
          simp only [List.take_succ_cons, List.take_zero, List.drop_succ_cons, List.drop_zero]
          have HB9 := hid (HB.out.go (w' := w9) (by rw [hw9]; exact below_drew _))
          clear hw9 z0 z1 z2 z3
          obtain ⟨x0, x1, x2, x3⟩ := HB9.out.2.1.cells
          obtain ⟨y0, y1, y2, y3⟩ := HB9.out.2.2.1.cells
          obtain ⟨b, o, e0, e1, e2, e3, rfl, hb, v0, v1, v2, v3, hnd⟩ := HB9.out.2.2.2.1.kid j hjl
          obtain ⟨b', o', f0, f1, f2, f3, rfl, hb', q0, q1, q2, q3, hnd'⟩ := HB9.out.2.2.2.2.kid j hjl'
          rcases Bool.eq_false_or_eq_true (sameT (ds[j]'hjl) (es[j]'hjl')) with hs | hs
          ·have HR := hid (hcall true hs e0 e1 e2 e3 f0 f1 f2 f3 w9 hnd hnd')
           have HSS := hid hs
           clear hnd hnd' hck hcall hs
           repeat still_step
           refine wpStill_nil ?_
           go_wp2_with (go_at_call 14; refine HR.out.mono ?_; rintro x w2 ⟨rfl, hb2⟩)
           have HB2 := hid (HB9.out.go hb2)
           clear hb2
           go_roundw
           case measure => simp [intOf]; omega
           case rel =>
            refine ⟨j + 1, by omega, by go_num, HB2, hid fun l hl gl hli => ?_⟩
            rcases Nat.lt_succ_iff_lt_or_eq.1 hli with h | rfl
            ·exact HK.out l hl gl h
            ·exact HSS.out
          ·have HR := hid (hcall false hs e0 e1 e2 e3 f0 f1 f2 f3 w9 hnd hnd')
           have HE : Hid (r = false) := hid (by rw [← HR0.out, sameL_no hjl hjl' hs, Bool.and_false])
           clear hnd hnd' hck hcall hs
           repeat still_step
           refine wpStill_nil ?_
           go_wp2_with (go_at_call 14; refine HR.out.mono ?_; rintro x w2 ⟨rfl, hb2⟩)
           go_ret
           exact ⟨ret_b HE.out.symm, (HB9.out.go hb2).1⟩
         ·obtain rfl : j = n := by omega
          have HE : Hid (r = true) := hid (by rw [← HR0.out, sameL_all (HN.out.trans HN'.out.symm) fun l hl gl => HK.out l hl gl (by rw [← HN.out]; exact hl)]; simp)
          obtain ⟨x0, x1, x2, x3⟩ := HB.out.2.1.cells
          go_wp2
          go_ret
          exact ⟨ret_b HE.out.symm, HB.out.1⟩
       ·have HE : Hid (r = false) := hid (by rw [← HR0.out, sameL_ne (by rw [HN.out, HN'.out]; exact hnn), Bool.and_false])
        have p4 : ((n : Int) != (n' : Int)) = true := bne_iff_ne.2 (by omega)
        clear hT
        go_enter Tryz.func14, Tryz.ntmps14
        go_wp2_with fail
        refine (HKS.out _ HB0.out.2.2.2.1.parts.2.2.1 HB0.out.2.2.2.2.parts.2.2.1).mono ?_
        rintro x w1 ⟨rfl, hb1⟩
        have HB1 := hid (HB0.out.go hb1)
        clear hb1
        obtain ⟨x0, x1, x2, x3⟩ := HB1.out.2.1.cells
        obtain ⟨y0, y1, y2, y3⟩ := HB1.out.2.2.1.cells
        go_wp2
        go_ret
        exact ⟨ret_b HE.out.symm, HB1.out.1⟩
      ·have HKS := hid (fun W hW hW' => RSame_q c2 u2 ks ks' W hW hW' false (decide_eq_false hkk))
       have HE : Hid (r = false) := hid (by rw [← HR0.out, decide_eq_false hkk, Bool.and_false, Bool.false_and])
       clear hT hkk
       go_enter Tryz.func14, Tryz.ntmps14
       go_wp2_with fail
       refine (HKS.out _ HB0.out.2.2.2.1.parts.2.2.1 HB0.out.2.2.2.2.parts.2.2.1).mono ?_
       rintro x w1 ⟨rfl, hb1⟩
       have HB1 := hid (HB0.out.go hb1)
       clear hb1
       go_wp2
       go_ret
       exact ⟨ret_b HE.out.symm, HB1.out.1⟩
     ·have HE : Hid (r = false) := hid (by rw [← HR0.out, decide_eq_false ht, Bool.and_false, Bool.false_and, Bool.false_and])
      obtain ⟨T, hT⟩ : ∃ T, ba t = T := ⟨_, rfl⟩
      obtain ⟨T', hT'⟩ : ∃ T', ba t' = T' := ⟨_, rfl⟩
      have p2 : (T.toList != T'.toList) = true := by rw [← hT, ← hT']; exact toList_bne ht
      have p3 : (T.toList == T'.toList) = false := by rw [← hT, ← hT']; exact toList_beq ht
      have p1 : (k != k) = false := by simp
      rw [hT, hT'] at HB0 ⊢
      clear hT hT' ht
      go_enter Tryz.func14, Tryz.ntmps14
      go_wp2
      go_ret
      exact ⟨ret_b HE.out.symm, HB0.out.1⟩
    ·have HE : Hid (r = false) := hid (by rw [← HR0.out, decide_eq_false hk, Bool.false_and, Bool.false_and, Bool.false_and])
     have p1 : (k != k') = true := bne_iff_ne.2 hk
     clear hk
     go_enter Tryz.func14, Tryz.ntmps14
     go_wp2
     go_ret
     exact ⟨ret_b HE.out.symm, HB0.out.1⟩
end
section
open Go.RowKit Go.Sort
open Nw N8 Q6 F9
theorem ret_i {a b : Int} (h : a = b) : Ending.returned (.int .i64 a) = .returned (.int .i64 b) := by rw [h]
end
end Go.Proofs.YtmdgpejedbkkdaaGreatDoor
