/- QuoDouble -/
import Derived.Test.YtgdejjkiiaodkaaGreatDoorOT23
set_option linter.unusedVariables false
set_option linter.unusedSimpArgs false
set_option maxRecDepth 100000
set_option maxHeartbeats 16000000
open Go.Lib (hid)
namespace Go.Proofs.YtgdejjkiiaodkaaGreatDoor
section
open Go.RowKit Go.Sort
open Q6
theorem esc_len (c : UInt8) : (esc c).length ≤ 4 := by
 unfold esc
 split
 ·show 2 ≤ 4; decide
 ·split
  ·show 2 ≤ 4; decide
  ·split
   ·show 2 ≤ 4; decide
   ·split
    ·show 1 ≤ 4; decide
    ·exact Nat.le_refl _
theorem escL_len (l : List UInt8) : (escL l).length ≤ 4 * l.length := by
 induction l with
 | nil => exact Nat.le_refl _
 | cons c l ih => rw [escL_cons, List.length_append, List.length_cons]; have := esc_len c; omega
theorem escL_app (l : List UInt8) (c : UInt8) : escL (l ++ [c]) = escL l ++ esc c := by
 induction l with
 | nil => show escL (c :: []) = _; rw [escL_cons]; show esc c ++ [] = [] ++ esc c; simp
 | cons b l ih => rw [List.cons_append, escL_cons, escL_cons, ih, List.append_assoc]
theorem take_snoc {l : List UInt8} {k : Nat} (h : k < l.length) : l.take (k + 1) = l.take k ++ [l.getD k 0] := by
 rw [List.take_succ_eq_append_getElem h, List.getD_eq_getElem?_getD, List.getElem?_eq_getElem h]; rfl
def accL (l : List UInt8) (k : Nat) : List UInt8 := 34 :: escL (l.take k)
theorem accL_snoc {l : List UInt8} {k : Nat} (h : k < l.length) : accL l (k + 1) = accL l k ++ esc (l.getD k 0) := by
 unfold accL; rw [take_snoc h, escL_app]; rfl
theorem accL_len (l : List UInt8) (k : Nat) : (accL l k).length ≤ 4 * l.length + 1 := by
 unfold accL
 rw [List.length_cons]
 have h1 := escL_len (l.take k)
 have h2 : (l.take k).length ≤ l.length := by rw [List.length_take]; exact Nat.min_le_right ..
 omega
theorem accL_end {l : List UInt8} {k : Nat} (h : l.length ≤ k) : accL l k ++ [34] = dblL l := by
 unfold accL dblL; rw [List.take_of_length_le h]
theorem Double_any (s : ByteArray) (w : World) (hs : s.size ≤ 1000000) (D : ByteArray) (hD : dblL s.data.toList = D.data.toList) :
  Calls Tryz.prog 24 #[.string s] w fun e w' => e = .returned (.string D) ∧ Below w.heap.size w w' := by
 obtain ⟨i0, hi, hz0, hz1, hz2⟩ := infoB
 have HD := hid hD
 clear hD
 obtain ⟨n, hn⟩ : ∃ n, s.size = n := ⟨_, rfl⟩
 have hlen : s.data.toList.length = n := by rw [← hn]; rfl
 have HLEN := hid hlen
 obtain ⟨w1, hmk, hown1, hgr1⟩ := run_make_own (P := Tryz.prog) w w.heap.size 47 5 i0 _ 1 Tryz.underlying47 hi hz0 hz1 .i64 .i64 (n + 2) (by rw [hz2]; omega) (by unfold maxLen; omega) (Nat.le_refl _)
 have hb1 : Below w.heap.size w w1 := (Below.refl _ _).grown hgr1 (Nat.le_refl _) (by intro p hp; cases hp)
 have HO1 := hid hown1
 have HB1 := hid hb1
 have h2n : ((n + 2 : Nat) : Int) = (n : Int) + 2 := by omega
 rw [h2n] at hmk
 clear hgr1 hb1 h2n hlen
 have hw2 : IntKind.i64.wrap ((n : Int) + 2) = (n : Int) + 2 := IntWalk.i64_in _ (by omega)
 have hsn : n ≤ 1000000 := by omega
 have hsz1 := HB1.out.size
 go_enter Tryz.func24, Tryz.ntmps24
 go_wp2_with (at_builtin; refine wpList_append_own _ rfl _ _ 47 rfl w.heap.size 5 i0 _ 1 1 Tryz.underlying47 hi hz0 hz1 hz2 rfl (by decide) _ _ _ rfl (hown1.alloc _) ⟨w1.heap.size, 0, none⟩ 1 1 [.int .u8 34] rfl rfl ?c1 ?c2 ?c3 ?c4 ?c5 ?_)
 case c1 => exact cells_new w1 _ _
 case c2 => exact one_one _
 case c3 => unfold maxLen; omega
 case c4 => omega
 case c5 => simp; omega
 intro v1 w2 hown2 hgrow2 hnil2
 have HO2 := hid hown2
 have HB2 : Hid (Below w.heap.size w w2) := hid ((HB1.out.alloc HB1.out.size _).grown hgrow2 (by simp; omega) (by intro q hq; exact (HO1.out.lt q hq).1))
 have HN2 : Hid (v1 ≠ .slice none 0 0) := hid (fun e => by first | exact hnil2 e | exact absurd (hnil2.1 e).2 (by decide))
 clear hown1 hown2 hgrow2 hnil2 hmk HO1 HB1 hsz1
 go_wp2
 go_loopw [3, 14] (fun sv si wr => ∃ k : Nat, k ≤ n ∧ si = .int .i64 (k : Int) ∧ wr.ownsRow w.heap.size 5 1 sv (accL s.data.toList k).length ((accL s.data.toList k).map encB) ∧ Below w.heap.size w wr ∧ sv ≠ .slice none 0 0) (fun _ si _ => n - (intOf si).toNat)
 case atStart => exact ⟨0, Nat.zero_le _, rfl, HO2.out, HB2.out, HN2.out⟩
 case round =>
  clear HO2 HB2 HN2
  obtain ⟨k, hk, rfl, hown, hbel, hnn⟩ := hrel
  have HNN := hid hnn
  have HB := hid hbel
  clear hbel hnn
  have hal := accL_len s.data.toList k
  rw [HLEN.out] at hal
  by_cases hlt : k < n
  ·have hks : k < s.size := by omega
   have hkl : k < s.data.toList.length := by rw [HLEN.out]; exact hlt
   have HX := hid (accL_snoc hkl)
   obtain ⟨c, hc⟩ : ∃ c, s[k]'hks = c := ⟨_, rfl⟩
   rw [getd s k hks, hc] at HX
   have hskz : (k : Int) < (n : Int) := by omega
   obtain ⟨u7, hu7⟩ : ∃ u, u = wr := ⟨_, rfl⟩
   have HC : Hid (∀ v, wr.ownsRow w.heap.size 5 1 v (accL s.data.toList k).length ((accL s.data.toList k).map encB) → Calls Tryz.prog 40 #[v, .int .u8 c.toNat] wr fun e w' => ∃ v', e = .returned v' ∧ w'.ownsRow w.heap.size 5 1 v' (accL s.data.toList (k + 1)).length ((accL s.data.toList (k + 1)).map encB) ∧ Below w.heap.size wr w' ∧ v' ≠ .slice none 0 0) := hid (fun v hv => by
    rw [HX.out]
    exact appesc_any v _ _ c w.heap.size wr hv HB.out.size (by omega))
   have HO := hid hown
   clear hkl hown hal hu7
   go_wp2_with (go_at_call 40; refine (HC.out _ HO.out).mono ?_; rintro e w3 ⟨v3, rfl, ho3, hb3, hn3⟩; have HO3 := hid ho3; have HB3 := hid hb3; have HN3 := hid hn3; clear ho3 hb3 hn3)
   go_roundw
   case measure => simp [intOf]; omega
   case rel => exact ⟨k + 1, by omega, by go_num, HO3.out, HB.out.trans HB3.out, HN3.out⟩
  ·obtain rfl : k = n := by omega
   have HE := hid (accL_end (l := s.data.toList) (k := k) (by rw [HLEN.out]; exact Nat.le_refl _))
   have HO := hid hown
   obtain ⟨YS, hYS⟩ : ∃ YS, YS = (accL s.data.toList k).map encB := ⟨_, rfl⟩
   rw [← hYS] at hown
   have HYS := hid hYS
   obtain ⟨al, hal2⟩ : ∃ al, (accL s.data.toList k).length = al := ⟨_, rfl⟩
   rw [hal2] at hown hal
   have HAL := hid hal2
   clear hYS hal2
   have hHb := HB.out.size
   go_wp2_with (at_builtin; refine wpList_append_own _ rfl _ _ 47 rfl w.heap.size 5 i0 _ 1 1 Tryz.underlying47 hi hz0 hz1 hz2 rfl (by decide) _ _ _ rfl (hown.alloc _) ⟨wr.heap.size, 0, none⟩ 1 1 [.int .u8 34] rfl rfl ?c1 ?c2 ?c3 ?c4 ?c5 ?_)
   case c1 => exact cells_new wr _ _
   case c2 => exact one_one _
   case c3 => unfold maxLen; omega
   case c4 => omega
   case c5 => simp; omega
   intro v4 w4 hown4 hgrow4 hnil4
   have HB4 : Hid (Below w.heap.size w w4) := hid ((HB.out.alloc HB.out.size _).grown hgrow4 (by simp; omega) (by intro q hq; exact (HO.out.lt q hq).1))
   have hown5 : w4.ownsRow w.heap.size 5 1 v4 (al + 1) ((dblL s.data.toList).map encB) := by
    rw [← HE.out, map_snoc, ← HYS.out]; exact hown4
   obtain ⟨g, cap, hv, hcv⟩ := own_conv hown5 (fun e => by first | exact hnil4 e | exact absurd (hnil4.1 e).2 (by decide))
   subst hv
   have hDD : (⟨(dblL s.data.toList).toArray⟩ : ByteArray) = D := mk_of HD.out
   rw [hDD] at hcv
   clear hown hown4 hown5 hgrow4 hnil4 hDD hal
   go_wp2
   go_ret
   exact ⟨rfl, HB4.out⟩
end
end Go.Proofs.YtgdejjkiiaodkaaGreatDoor
