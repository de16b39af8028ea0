/- TmpRd2, TmpLit -/
import Derived.Deep.CutRange
import Derived.Deep.LoopGhost
import Derived.Test.YtkcilmmaggmmoaaGreatDoorNT13
import Derived.Test.YtkcilmmaggmmoaaGreatDoorNT15
set_option linter.unusedVariables false
set_option linter.unusedSimpArgs false
set_option maxRecDepth 100000
set_option maxHeartbeats 16000000
open Go.Lib (hid)
namespace Go.Proofs.YtkcilmmaggmmoaaGreatDoor
namespace Nw
end Nw
namespace T13
end T13
end Go.Proofs.YtkcilmmaggmmoaaGreatDoor
namespace Go.Proofs.YtkcilmmaggmmoaaGreatDoor
section
open Go.RowKit Go.Sort
open Nw T13 Go.ChangeShapes Go.WideShapes
theorem nameByte_any (c : UInt8) (w : World) : Calls Tryz.prog 84 #[.int .u8 c.toNat] w fun e w' => e = .returned (.bool (v2 c)) ∧ w = w' := by
 have H : Hid (v2 c = ((decide ((97 : Int) ≤ (c.toNat : Int)) && decide ((c.toNat : Int) ≤ 122)) || (decide ((65 : Int) ≤ (c.toNat : Int)) && decide ((c.toNat : Int) ≤ 90)) || ((c.toNat : Int) == 95) || (decide ((48 : Int) ≤ (c.toNat : Int)) && decide ((c.toNat : Int) ≤ 57)))) := hid (by
  have hl : low c = (decide ((97 : Int) ≤ (c.toNat : Int)) && decide ((c.toNat : Int) ≤ 122)) := by unfold low; congr 1 <;> exact decide_eq_decide.2 (by omega)
  have hu : upp c = (decide ((65 : Int) ≤ (c.toNat : Int)) && decide ((c.toNat : Int) ≤ 90)) := by unfold upp; congr 1 <;> exact decide_eq_decide.2 (by omega)
  have hd : dig c = (decide ((48 : Int) ≤ (c.toNat : Int)) && decide ((c.toNat : Int) ≤ 57)) := by unfold dig; congr 1 <;> exact decide_eq_decide.2 (by omega)
  have hi : isC 95 c = ((c.toNat : Int) == 95) := by unfold isC; rw [Bool.eq_iff_iff]; simp only [beq_iff_eq, decide_eq_true_eq]; omega
  unfold v2 v1
  rw [hl, hu, hd, hi])
 by_cases h1 : (97 : Int) ≤ (c.toNat : Int) <;> by_cases h2 : (c.toNat : Int) ≤ 122 <;> by_cases h3 : (65 : Int) ≤ (c.toNat : Int) <;> by_cases h4 : (c.toNat : Int) ≤ 90 <;> by_cases h5 : (48 : Int) ≤ (c.toNat : Int) <;> by_cases h6 : (c.toNat : Int) ≤ 57 <;> by_cases h7 : (c.toNat : Int) = 95
 all_goals try (exfalso; omega)
 all_goals
  first
   | have e7 : ((c.toNat : Int) == 95) = true := beq_iff_eq.2 h7
   | have e7 : ((c.toNat : Int) == 95) = false := beq_eq_false_iff_ne.2 h7
  clear h7
  go_enter Tryz.func84, Tryz.ntmps84
  go_wp2
  go_ret
  exact ⟨ret_b13 (by rw [H.out]; simp [h1, h2, h3, h4, h5, h6, e7]), rfl⟩
section
variable {w : World} {g : Nat} {s : ByteArray}
theorem takeName_any (n q : ByteArray) (h : RdB w g s) (hs : s.size ≤ 1000000) (hn : n.data.toList = s.data.toList.take (lenN s.data.toList)) (hq : q.data.toList = s.data.toList.drop (lenN s.data.toList)) :
  Calls Tryz.prog 69 #[.pointer (some ⟨g, 0, none⟩)] w fun e w' => e = .returned (.string n) ∧ RdB w' g q ∧ w.grownBy w' (some g) := by
 obtain ⟨c0, f0⟩ := h.cells
 have HF := hid (h.set q)
 have hRs : lenN s.data.toList ≤ s.size := lenN_le _
 obtain ⟨R, hR⟩ : ∃ R, lenN s.data.toList = R := ⟨_, rfl⟩
 rw [hR] at hn hq hRs
 have hx1 : s.extract 0 R = n := bytes_ext (by rw [take13, hn])
 have hx2 : s.extract R s.size = q := bytes_ext (by rw [rest13, hq])
 have HR : Hid (0 + lenN (s.data.toList.drop 0) = R) := hid (by rw [Nat.zero_add]; exact hR)
 clear h hn hq hR
 go_enter Tryz.func69, Tryz.ntmps69
 go_wp2
 go_loop [3] (fun i => ∃ k : Nat, k ≤ s.size ∧ i = .int .i64 (k : Int) ∧ Hid (k + lenN (s.data.toList.drop k) = R)) (fun i => s.size - (intOf i).toNat)
 case atStart => exact ⟨0, Nat.zero_le _, rfl, HR⟩
 case round =>
  clear HR
  obtain ⟨k, hk, rfl, HR⟩ := hrel
  by_cases hlt : k < s.size
  ·have hlz : (k : Int) < (s.size : Int) := by omega
   have hst : s.data.toList.drop k = s[k]'hlt :: s.data.toList.drop (k + 1) := List.drop_eq_getElem_cons (show k < s.data.toList.length from hlt)
   have hcall := nameByte_any s[k] w
   obtain ⟨c, hc⟩ : ∃ c, s[k]'hlt = c := ⟨_, rfl⟩
   rw [hc] at hcall hst
   have HST := hid hst
   clear hst
   cases hv : v2 c with
   | false =>
    rw [hv] at hcall
    obtain rfl : k = R := by have := HR.out; rw [HST.out, lenN, hv] at this; simpa using this
    clear hv HR HST
    have hk0 : (0 : Int) ≤ (k : Int) := by omega
    have hkz : (k : Int) ≤ (s.size : Int) := by omega
    go_wp2_with (go_at_call 84; refine hcall.mono ?_; rintro e w' ⟨rfl, rfl⟩)
    go_ret
    exact ⟨rfl, HF.out⟩
   | true =>
    rw [hv] at hcall
    have HN : Hid (k + 1 + lenN (s.data.toList.drop (k + 1)) = R) := hid (by have := HR.out; rw [HST.out, lenN, hv, if_pos rfl] at this; omega)
    clear hv hx1 hx2
    go_wp2_with (go_at_call 84; refine hcall.mono ?_; rintro e w' ⟨rfl, rfl⟩)
    go_round
    case rel => exact ⟨k + 1, by omega, by go_num, HN⟩
    case measure => simp [intOf]; omega
  ·obtain rfl : k = s.size := by omega
   obtain rfl : s.size = R := by have := HR.out; rw [List.drop_eq_nil_of_le (show s.data.toList.length ≤ s.size from Nat.le_refl _)] at this; simpa [lenN] using this
   clear HR
   obtain rfl : q = ByteArray.empty := by rw [← hx2]; simp
   go_wp2
   go_ret
   exact ⟨rfl, HF.out⟩
end
def Noop (l : L8) (k : Nat) : Prop := ∀ j : Nat, 2 ≤ j → j < k → pre (markL (j : Int)) l = false
theorem noop_all {l : L8} (h : Noop l 8) : (opN l).1 = 1 := by
 rw [op_first]
 have h2 : pre (markL 2) l = false := h 2 (by decide) (by decide)
 have h3 : pre (markL 3) l = false := h 3 (by decide) (by decide)
 have h4 : pre (markL 4) l = false := h 4 (by decide) (by decide)
 have h5 : pre (markL 5) l = false := h 5 (by decide) (by decide)
 have h6 : pre (markL 6) l = false := h 6 (by decide) (by decide)
 have h7 : pre (markL 7) l = false := h 7 (by decide) (by decide)
 simp [h2, h3, h4, h5, h6, h7]
theorem noop_hit {l : L8} {k : Nat} (h : Noop l k) (h2 : 2 ≤ k) (h8 : k < 8) (hk : pre (markL (k : Int)) l = true) : (opN l).1 = (k : Int) := by
 rw [op_first]
 match k, h2, h8 with
 | 2, _, _ => exact if_pos hk
 | 3, _, _ => exact (if_neg (by rw [show pre (markL 2) l = false from h 2 (by decide) (by decide)]; decide)).trans (if_pos hk)
 | 4, _, _ => exact (if_neg (by rw [show pre (markL 2) l = false from h 2 (by decide) (by decide)]; decide)).trans ((if_neg (by rw [show pre (markL 3) l = false from h 3 (by decide) (by decide)]; decide)).trans (if_pos hk))
 | 5, _, _ => exact (if_neg (by rw [show pre (markL 2) l = false from h 2 (by decide) (by decide)]; decide)).trans ((if_neg (by rw [show pre (markL 3) l = false from h 3 (by decide) (by decide)]; decide)).trans ((if_neg (by rw [show pre (markL 4) l = false from h 4 (by decide) (by decide)]; decide)).trans (if_pos hk)))
 | 6, _, _ => exact (if_neg (by rw [show pre (markL 2) l = false from h 2 (by decide) (by decide)]; decide)).trans ((if_neg (by rw [show pre (markL 3) l = false from h 3 (by decide) (by decide)]; decide)).trans ((if_neg (by rw [show pre (markL 4) l = false from h 4 (by decide) (by decide)]; decide)).trans ((if_neg (by rw [show pre (markL 5) l = false from h 5 (by decide) (by decide)]; decide)).trans (if_pos hk))))
 | 7, _, _ => exact (if_neg (by rw [show pre (markL 2) l = false from h 2 (by decide) (by decide)]; decide)).trans ((if_neg (by rw [show pre (markL 3) l = false from h 3 (by decide) (by decide)]; decide)).trans ((if_neg (by rw [show pre (markL 4) l = false from h 4 (by decide) (by decide)]; decide)).trans ((if_neg (by rw [show pre (markL 5) l = false from h 5 (by decide) (by decide)]; decide)).trans ((if_neg (by rw [show pre (markL 6) l = false from h 6 (by decide) (by decide)]; decide)).trans (if_pos hk)))))
theorem noop_next {l : L8} {k : Nat} (h : Noop l k) (hk : pre (markL (k : Int)) l = false) : Noop l (k + 1) := fun j h2 hj => by
 rcases Nat.lt_or_ge j k with h1 | h1
 ·exact h j h2 h1
 ·obtain rfl : j = k := by omega
  exact hk
def opK (l : L8) : Nat := if (opN l).1 = 1 then 0 else (opN l).1.toNat
theorem opK_none {l : L8} (h : (opN l).1 = 1) : opK l = 0 ∧ l.drop (opN l).2 = l := by
 unfold opK
 rw [if_pos h, op_len, if_pos h]
 exact ⟨rfl, rfl⟩
theorem opK_some {l : L8} {k : Nat} (h : (opN l).1 = (k : Int)) (hk : 2 ≤ k) : opK l = k ∧ (opN l).2 = (markL (k : Int)).length := by
 unfold opK
 rw [if_neg (by omega), op_len, if_neg (by omega), h]
 exact ⟨Int.toNat_natCast k, rfl⟩
section
variable {w : World} {g : Nat} {s : ByteArray}
theorem takeOp_any (q : ByteArray) (h : RdB w g s) (hO : Ops8 w) (hq : q.data.toList = s.data.toList.drop (opN s.data.toList).2) :
  Calls Tryz.prog 91 #[.pointer (some ⟨g, 0, none⟩)] w fun e w' => e = .returned (.int .i64 (opK s.data.toList : Int)) ∧ RdB w' g q ∧ w.grownBy w' (some g) := by
 have HR : Hid (RdB w g s) := hid h
 have HO : Hid (Ops8 w) := hid hO
 have HQ := hid hq
 obtain ⟨K, hK⟩ : ∃ K, opK s.data.toList = K := ⟨_, rfl⟩
 rw [hK]
 have HK := hid hK
 clear h hO hq hK
 go_enter Tryz.func91, Tryz.ntmps91
 go_wp2
 go_loopw [3] (fun i wr => ∃ k : Nat, 2 ≤ k ∧ k ≤ 8 ∧ i = .int .i64 (k : Int) ∧ Hid (Noop s.data.toList k) ∧ Hid (RdB wr g s) ∧ Hid (w.grownBy wr (some g))) (fun i _ => 8 - (intOf i).toNat)
 case atStart => exact ⟨2, by omega, by omega, rfl, hid (fun j h1 h2 => by omega), HR, hid (World.grownBy.refl _ _)⟩
 case round =>
  obtain ⟨k, h2, h8, rfl, HN, HR2, HG⟩ := hrel
  by_cases hlt : k < 8
  ·have hk7 : (k : Int) ≤ 7 := by omega
   have hk8 : (k : Int) < 8 := by omega
   have c1 := (HO.out.grown HR.out HG.out) k hlt
   have HX := hid (ba_data (markL (k : Int)))
   cases hb : pre (markL (k : Int)) s.data.toList with
   | false =>
    have HT := hid (take_any (ba (markL (k : Int))) s false HR2.out (by rw [HX.out]; exact hb) rfl)
    have HN2 := hid (noop_next HN.out hb)
    clear hb HX HN
    generalize ba (markL (k : Int)) = x at c1 HT
    go_wp2_with (go_at_call 68; refine HT.out.mono ?_; rintro e w1 ⟨rfl, r1, g1⟩; have HR3 := hid r1; have HG3 := hid (HG.out.trans g1); clear r1 g1)
    go_roundw
    case rel => exact ⟨k + 1, by omega, by omega, by go_num, HN2, HR3, HG3⟩
    case measure => simp [intOf]; omega
   | true =>
    have ho := noop_hit HN.out h2 hlt hb
    have HT := hid (take_any (ba (markL (k : Int))) q true HR2.out (by rw [HX.out]; exact hb) (by
     rw [HQ.out, (opK_some ho h2).2, if_pos rfl, ← len13 (ba (markL (k : Int))), ba_data]))
    have HE : Hid (k = K) := hid (by rw [← HK.out]; exact (opK_some ho h2).1.symm)
    clear hb HX HN ho
    generalize ba (markL (k : Int)) = x at c1 HT
    go_wp2_with (go_at_call 68; refine HT.out.mono ?_; rintro e w1 ⟨rfl, r1, g1⟩; have HR3 := hid r1; have HG3 := hid (HG.out.trans g1); clear r1 g1)
    go_ret
    exact ⟨by rw [HE.out]; rfl, HR3.out, HG3.out⟩
  ·obtain rfl : k = 8 := by omega
   have ho := opK_none (noop_all HN.out)
   have HE : Hid (K = 0) := hid (by rw [← HK.out]; exact ho.1)
   have HF : Hid (RdB wr g q) := hid (by
    rw [show q = s from bytes_ext (by rw [HQ.out]; exact ho.2)]
    exact HR2.out)
   clear ho HN
   go_wp2
   go_ret
   exact ⟨by rw [HE.out]; rfl, HF.out, HG.out⟩
end
end
section
open Go.RowKit Go.Sort
open Nw T13 Go.ChangeShapes Go.WideShapes
def Halt (D : Nat) (l : L8) : Prop := endB D l = true ∨ ∃ tl, l = 36 :: tl ∧ tl.getD 0 0 ≠ 36
def RdM (g : Nat) (w : World) : Nat := match w.cell? ⟨g, 0, none⟩ with | some (.string s) => s.size | _ => 0
theorem rdM_of {w : World} {g : Nat} {s : ByteArray} (h : RdB w g s) : RdM g w = s.size := by
 unfold RdM
 rw [h.cells.1]
theorem takeLit_any {w : World} {g : Nat} {s : ByteArray} (d : Nat) (h : RdB w g s) (hs : s.size ≤ 100000) :
  Calls Tryz.prog 51 #[.pointer (some ⟨g, 0, none⟩), .int .i64 (d : Int)] w fun e w' => ∃ t q : ByteArray, e = .returned (.string t) ∧ RdB w' g q ∧ w.grownBy w' (some g) ∧ LitTo (d + 1) s.data.toList t.data.toList q.data.toList ∧ Halt (d + 1) q.data.toList := by
 obtain ⟨i0, hi, hz0, hz1, hz2⟩ := infoB
 have HRS : Hid (RdB w g s) := hid h
 have HGL : Hid (g < w.heap.size) := hid h.lt
 have HSZ : Hid (s.size ≤ 100000) := hid hs
 clear h hs
 go_enter Tryz.func51, Tryz.ntmps51
 go_wp2
 go_loopw [5] (fun sv wr => ∃ (t : L8) (q : ByteArray), t.length ≤ 100000 ∧ wr.ownsRow w.heap.size 5 1 sv t.length (t.map encB) ∧ Hid (RdB wr g q) ∧ Hid (w.grownBy wr (some g)) ∧ Hid (LitTo (d + 1) s.data.toList t q.data.toList)) (fun _ wr => RdM g wr)
 case atStart => exact ⟨[], s, Nat.zero_le _, owns_nil _ _ _, HRS, hid (World.grownBy.refl _ _), hid (LitTo.refl _ _)⟩
 case round =>
  obtain ⟨t, q, htl, hown, HR, HG, HL⟩ := hrel
  obtain ⟨c0, f0⟩ := HR.out.cells
  cases hb : endB (d + 1) q.data.toList with
  | true =>
   have HE : Hid (Calls Tryz.prog 52 #[.pointer (some ⟨g, 0, none⟩), .int .i64 (d : Int)] wr fun e w' => e = .returned (.bool true) ∧ wr = w') := hid (by have := isEnd_any d HR.out; rw [hb] at this; exact this)
   have HH : Hid (Halt (d + 1) q.data.toList) := hid (.inl hb)
   clear hb
   rcases own_cases hown with ⟨hv, hA⟩ | ⟨gv, cap, hv2, hcv⟩
   ·subst hv
    have HA := hid hA
    clear hown hA
    have hcv := conv_nil wr
    go_wp2_with (first | (go_at_call 52; refine HE.out.mono ?_; rintro e w1 ⟨rfl, rfl⟩))
    go_ret
    exact ⟨_, _, rfl, HR.out, HG.out, by rw [HA.out] at HL; exact HL.out, HH.out⟩
   ·subst hv2
    clear hown
    obtain ⟨A, hA⟩ : ∃ A : ByteArray, A = ⟨t.toArray⟩ := ⟨_, rfl⟩
    rw [← hA] at hcv
    have HA := hid hA
    clear hA
    go_wp2_with (first | (go_at_call 52; refine HE.out.mono ?_; rintro e w1 ⟨rfl, rfl⟩))
    go_ret
    exact ⟨_, _, rfl, HR.out, HG.out, by rw [HA.out]; show LitTo _ _ t.toArray.toList _; rw [List.toList_toArray]; exact HL.out, HH.out⟩
  | false =>
   have HE : Hid (Calls Tryz.prog 52 #[.pointer (some ⟨g, 0, none⟩), .int .i64 (d : Int)] wr fun e w' => e = .returned (.bool false) ∧ wr = w') := hid (by have := isEnd_any d HR.out; rw [hb] at this; exact this)
   have hne0 : q.data.toList ≠ [] := fun e => by rw [e] at hb; cases hb
   have hpos : 0 < q.size := by rw [← len13]; exact List.length_pos_iff.2 hne0
   have hpos1 : (0 : Int) < (q.size : Int) := by omega
   have hpos2 : (1 : Int) ≤ (q.size : Int) := by omega
   obtain ⟨c, hc⟩ : ∃ c, q[0]'hpos = c := ⟨_, rfl⟩
   obtain ⟨tl, hq⟩ : ∃ tl, q.data.toList = c :: tl := ⟨q.data.toList.drop 1, by
    have h1 : q.data.toList.drop 0 = q[0]'hpos :: q.data.toList.drop 1 := List.drop_eq_getElem_cons (show 0 < q.data.toList.length from hpos)
    rw [hc] at h1
    exact h1⟩
   have hlen : q.size = tl.length + 1 := by rw [← len13, hq, List.length_cons]
   clear hne0
   by_cases h36 : c = 36
   ·subst h36
    have HP1 := hid (fun W => hasP13 q ⟨#[36]⟩ true W (by rw [hq]; rfl))
    by_cases h2 : tl.getD 0 0 = 36
    ·have HP2 := hid (fun W => hasP13 q ⟨#[36, 36]⟩ true W (by
      show pre [36, 36] _ = true
      rw [hq, pre_two _ _ _ (by decide) (by decide)]
      exact decide_eq_true ⟨rfl, h2⟩))
     obtain ⟨tl2, rfl⟩ : ∃ tl2, tl = 36 :: tl2 := by
      cases tl with
      | nil => exact absurd h2 (by decide)
      | cons x t2 => exact ⟨t2, by rw [show x = 36 from h2]⟩
     have hp2 : (2 : Int) ≤ (q.size : Int) := by rw [List.length_cons] at hlen; omega
     obtain ⟨q2, hx⟩ : ∃ q2, q.extract 2 q.size = q2 := ⟨_, rfl⟩
     have hq2 : q2.data.toList = tl2 := by rw [← hx, rest13, hq]; rfl
     have HLT : Hid (q2.size < q.size) := hid (by rw [← len13 q2, hq2, hlen, List.length_cons]; omega)
     have HN : Hid (LitTo (d + 1) s.data.toList (t ++ [36]) q2.data.toList) := hid (by rw [hq2]; have := HL.out; rw [hq] at this; exact this.two)
     obtain ⟨c, hce⟩ : ∃ c : UInt8, c = 36 := ⟨_, rfl⟩
     rw [← hce] at hc HN
     have HCE := hid hce
     clear hb hq h2 hlen hq2 hce
     obtain ⟨YS, hYS⟩ : ∃ YS, YS = t.map encB := ⟨_, rfl⟩
     rw [← hYS] at hown
     have HYS := hid hYS
     clear hYS
     obtain ⟨al, hal⟩ : ∃ al, t.length = al := ⟨_, rfl⟩
     have hal2 : al ≤ 100000 := by omega
     rw [hal] at hown
     have HAL := hid hal
     have HBASE : Hid (w.heap.size ≤ wr.heap.size) := hid HG.out.size
     clear hal htl
     go_wp2_with (first | (go_at_call 52; refine HE.out.mono ?_; rintro e w1 ⟨rfl, rfl⟩) | (go_at_call 67; refine (HP1.out _).mono ?_; rintro e w1 ⟨rfl, rfl⟩) | (go_at_call 67; refine (HP2.out _).mono ?_; rintro e w1 ⟨rfl, rfl⟩) | (at_builtin; refine wpList_append_own _ rfl _ _ 98 rfl w.heap.size 5 i0 _ 1 1 Tryz.underlying98 hi hz0 hz1 hz2 rfl (by decide) _ _ _ rfl (hown.alloc _) ⟨wr.heap.size, 0, none⟩ 1 1 [.int .u8 (c.toNat : Int)] rfl rfl ?c1 ?c2 ?c3 ?c4 ?c5 ?_))
     case c1 => exact cells_new wr _ _
     case c2 => exact one_one _
     case c3 => unfold maxLen; omega
     case c4 => omega
     case c5 => have := HBASE.out; simp; omega
     ·intro v' w2 hown' hgrow hnil
      have HW2 := hid hown'
      have hne : ∀ k, Value.ownBlock u5 = some k → k ≠ g := fun k hk e => by have h1 := (hown.lt k hk).1; have h2 := HGL.out; omega
      have hR2 : RdB w2 g q := (HR.out.below ((Below.refl _ _).alloc (Nat.le_refl _) _)).other hgrow fun e => hne g e rfl
      have HG2 : Hid (w.grownBy w2 (some g)) := hid ((HG.out.trans (World.grownBy_alloc _ _ _)).andThen hgrow fun k hk => .inl (by have h1 := (hown.lt k hk).1; exact h1))
      obtain ⟨c0', f0'⟩ := hR2.cells
      have HS := hid (hR2.set q2)
      clear hown' hgrow hown hnil hne hR2
      go_wp2
      go_roundw
      case measure => rw [rdM_of HS.out.1, rdM_of HR.out]; exact HLT.out
      case rel =>
       refine ⟨t ++ [c], q2, by rw [List.length_append, HAL.out]; have h1 := HN.out.2; rw [List.length_append, HAL.out] at h1; have h2 := HSZ.out; simp only [len13] at h1; show al + 1 ≤ _; have h3 : [c].length = 1 := rfl; omega, ?_, hid HS.out.1, hid (HG2.out.trans HS.out.2), HN⟩
       rw [map_snoc, List.length_append, HAL.out, ← HYS.out]; exact owns_keep HW2.out fun k hk => set_oth _ _ _ _ fun e => (by have h1 := (HW2.out.lt k hk).1; have h2 := HGL.out; have e : k = g := e; omega)
    ·have HP2 := hid (fun W => hasP13 q ⟨#[36, 36]⟩ false W (by
      show pre [36, 36] _ = false
      rw [hq, pre_two _ _ _ (by decide) (by decide)]
      exact decide_eq_false fun e => h2 e.2))
     have HH : Hid (Halt (d + 1) q.data.toList) := hid (.inr ⟨tl, hq, h2⟩)
     clear hb hq h2 hlen hc hpos1 hpos2
     rcases own_cases hown with ⟨hv, hA⟩ | ⟨gv, cap, hv2, hcv⟩
     ·subst hv
      have HA := hid hA
      clear hown hA
      have hcv := conv_nil wr
      go_wp2_with (first | (go_at_call 52; refine HE.out.mono ?_; rintro e w1 ⟨rfl, rfl⟩) | (go_at_call 67; refine (HP1.out _).mono ?_; rintro e w1 ⟨rfl, rfl⟩) | (go_at_call 67; refine (HP2.out _).mono ?_; rintro e w1 ⟨rfl, rfl⟩))
      go_ret
      exact ⟨_, _, rfl, HR.out, HG.out, by rw [HA.out] at HL; exact HL.out, HH.out⟩
     ·subst hv2
      clear hown
      obtain ⟨A, hA⟩ : ∃ A : ByteArray, A = ⟨t.toArray⟩ := ⟨_, rfl⟩
      rw [← hA] at hcv
      have HA := hid hA
      clear hA
      go_wp2_with (first | (go_at_call 52; refine HE.out.mono ?_; rintro e w1 ⟨rfl, rfl⟩) | (go_at_call 67; refine (HP1.out _).mono ?_; rintro e w1 ⟨rfl, rfl⟩) | (go_at_call 67; refine (HP2.out _).mono ?_; rintro e w1 ⟨rfl, rfl⟩))
      go_ret
      exact ⟨_, _, rfl, HR.out, HG.out, by rw [HA.out]; show LitTo _ _ t.toArray.toList _; rw [List.toList_toArray]; exact HL.out, HH.out⟩
   ·have HP1 := hid (fun W => hasP13 q ⟨#[36]⟩ false W (by
     show pre [36] _ = false
     rw [hq, pre_one _ _ (by decide)]
     exact decide_eq_false h36))
    obtain ⟨q2, hx⟩ : ∃ q2, q.extract 1 q.size = q2 := ⟨_, rfl⟩
    have hq2 : q2.data.toList = tl := by rw [← hx, rest13, hq]; rfl
    have HLT : Hid (q2.size < q.size) := hid (by rw [← len13 q2, hq2, hlen]; omega)
    have HN : Hid (LitTo (d + 1) s.data.toList (t ++ [c]) q2.data.toList) := hid (by rw [hq2]; have := HL.out; rw [hq] at this; rw [hq] at hb; exact this.byte hb h36)
    clear hb hq h36 hlen hq2
    obtain ⟨YS, hYS⟩ : ∃ YS, YS = t.map encB := ⟨_, rfl⟩
    rw [← hYS] at hown
    have HYS := hid hYS
    clear hYS
    obtain ⟨al, hal⟩ : ∃ al, t.length = al := ⟨_, rfl⟩
    have hal2 : al ≤ 100000 := by omega
    rw [hal] at hown
    have HAL := hid hal
    have HBASE : Hid (w.heap.size ≤ wr.heap.size) := hid HG.out.size
    clear hal htl
    go_wp2_with (first | (go_at_call 52; refine HE.out.mono ?_; rintro e w1 ⟨rfl, rfl⟩) | (go_at_call 67; refine (HP1.out _).mono ?_; rintro e w1 ⟨rfl, rfl⟩) | (at_builtin; refine wpList_append_own _ rfl _ _ 98 rfl w.heap.size 5 i0 _ 1 1 Tryz.underlying98 hi hz0 hz1 hz2 rfl (by decide) _ _ _ rfl (hown.alloc _) ⟨wr.heap.size, 0, none⟩ 1 1 [.int .u8 (c.toNat : Int)] rfl rfl ?c1 ?c2 ?c3 ?c4 ?c5 ?_))
    case c1 => exact cells_new wr _ _
    case c2 => exact one_one _
    case c3 => unfold maxLen; omega
    case c4 => omega
    case c5 => have := HBASE.out; simp; omega
    ·intro v' w2 hown' hgrow hnil
     have HW2 := hid hown'
     have hne : ∀ k, Value.ownBlock u5 = some k → k ≠ g := fun k hk e => by have h1 := (hown.lt k hk).1; have h2 := HGL.out; omega
     have hR2 : RdB w2 g q := (HR.out.below ((Below.refl _ _).alloc (Nat.le_refl _) _)).other hgrow fun e => hne g e rfl
     have HG2 : Hid (w.grownBy w2 (some g)) := hid ((HG.out.trans (World.grownBy_alloc _ _ _)).andThen hgrow fun k hk => .inl (by have h1 := (hown.lt k hk).1; exact h1))
     obtain ⟨c0', f0'⟩ := hR2.cells
     have HS := hid (hR2.set q2)
     clear hown' hgrow hown hnil hne hR2
     go_wp2
     go_roundw
     case measure => rw [rdM_of HS.out.1, rdM_of HR.out]; exact HLT.out
     case rel =>
      refine ⟨t ++ [c], q2, by rw [List.length_append, HAL.out]; have h1 := HN.out.2; rw [List.length_append, HAL.out] at h1; have h2 := HSZ.out; simp only [len13] at h1; show al + 1 ≤ _; have h3 : [c].length = 1 := rfl; omega, ?_, hid HS.out.1, hid (HG2.out.trans HS.out.2), HN⟩
      rw [map_snoc, List.length_append, HAL.out, ← HYS.out]; exact owns_keep HW2.out fun k hk => set_oth _ _ _ _ fun e => (by have h1 := (HW2.out.lt k hk).1; have h2 := HGL.out; have e : k = g := e; omega)
end
end Go.Proofs.YtkcilmmaggmmoaaGreatDoor
