/- TmpLit -/
import Derived.Test.YtkcilmmaggmmoaaDoorGT27
set_option linter.unusedVariables false
set_option linter.unusedSimpArgs false
set_option maxRecDepth 100000
set_option maxHeartbeats 16000000
open Go.Lib (hid)
namespace Go.Proofs.YtkcilmmaggmmoaaDoor
namespace Nw
end Nw
namespace T13
end T13
end Go.Proofs.YtkcilmmaggmmoaaDoor
namespace Go.Proofs.YtkcilmmaggmmoaaDoor
section
open Go.RowKit Go.Sort
open Nw T13 Go.ChangeShapes Go.WideShapes
def Halt (D : Nat) (l : L8) : Prop := endB D l = true ∨ ∃ tl, l = 36 :: tl ∧ tl.getD 0 0 ≠ 36
def RdM (g : Nat) (w : World) : Nat := match w.cell? ⟨g, 0, none⟩ with | some (.string s) => s.size | _ => 0
theorem rdM_of {w : World} {g : Nat} {s : ByteArray} (h : RdB w g s) : RdM g w = s.size := by
 unfold RdM
 rw [h.cells.1]
theorem takeLit_any {w : World} {g : Nat} {s : ByteArray} (d : Nat) (h : RdB w g s) (hs : s.size ≤ 100000) :
  Calls Tryd.prog 32 #[.pointer (some ⟨g, 0, none⟩), .int .i64 (d : Int)] w fun e w' => ∃ t q : ByteArray, e = .returned (.string t) ∧ RdB w' g q ∧ w.grownBy w' (some g) ∧ LitTo (d + 1) s.data.toList t.data.toList q.data.toList ∧ Halt (d + 1) q.data.toList := by
 obtain ⟨i0, hi, hz0, hz1, hz2⟩ := infoB
 have HRS : Hid (RdB w g s) := hid h
 have HGL : Hid (g < w.heap.size) := hid h.lt
 have HSZ : Hid (s.size ≤ 100000) := hid hs
 clear h hs
 go_enter Tryd.func32, Tryd.ntmps32
 go_wp2
 go_loopw [5] (fun sv wr => ∃ (t : L8) (q : ByteArray), t.length ≤ 100000 ∧ wr.ownsRow w.heap.size 5 1 sv t.length (t.map encB) ∧ Hid (RdB wr g q) ∧ Hid (w.grownBy wr (some g)) ∧ Hid (LitTo (d + 1) s.data.toList t q.data.toList)) (fun _ wr => RdM g wr)
 case atStart => exact ⟨[], s, Nat.zero_le _, owns_nil _ _ _, HRS, hid (World.grownBy.refl _ _), hid (LitTo.refl _ _)⟩
 case round =>
  obtain ⟨t, q, htl, hown, HR, HG, HL⟩ := hrel
  obtain ⟨c0, f0⟩ := HR.out.cells
  cases hb : endB (d + 1) q.data.toList with
  | true =>
   have HE : Hid (Calls Tryd.prog 33 #[.pointer (some ⟨g, 0, none⟩), .int .i64 (d : Int)] wr fun e w' => e = .returned (.bool true) ∧ wr = w') := hid (by have := isEnd_any d HR.out; rw [hb] at this; exact this)
   have HH : Hid (Halt (d + 1) q.data.toList) := hid (.inl hb)
   clear hb
   rcases own_cases hown with ⟨hv, hA⟩ | ⟨gv, cap, hv2, hcv⟩
   ·subst hv
    have HA := hid hA
    clear hown hA
    have hcv := conv_nil wr
    go_wp2_with (first | (go_at_call 33; refine HE.out.mono ?_; rintro e w1 ⟨rfl, rfl⟩))
    go_ret
    exact ⟨_, _, rfl, HR.out, HG.out, by rw [HA.out] at HL; exact HL.out, HH.out⟩
   ·subst hv2
    clear hown
    obtain ⟨A, hA⟩ : ∃ A : ByteArray, A = ⟨t.toArray⟩ := ⟨_, rfl⟩
    rw [← hA] at hcv
    have HA := hid hA
    clear hA
    go_wp2_with (first | (go_at_call 33; refine HE.out.mono ?_; rintro e w1 ⟨rfl, rfl⟩))
    go_ret
    exact ⟨_, _, rfl, HR.out, HG.out, by rw [HA.out]; show LitTo _ _ t.toArray.toList _; rw [List.toList_toArray]; exact HL.out, HH.out⟩
  | false =>
   have HE : Hid (Calls Tryd.prog 33 #[.pointer (some ⟨g, 0, none⟩), .int .i64 (d : Int)] wr fun e w' => e = .returned (.bool false) ∧ wr = w') := hid (by have := isEnd_any d HR.out; rw [hb] at this; exact this)
   have hne0 : q.data.toList ≠ [] := fun e => by rw [e] at hb; cases hb
   have hpos : 0 < q.size := by rw [← len13]; exact List.length_pos_iff.2 hne0
   have hpos1 : (0 : Int) < (q.size : Int) := by omega
   have hpos2 : (1 : Int) ≤ (q.size : Int) := by omega
   obtain ⟨c, hc⟩ : ∃ c, q[0]'hpos = c := ⟨_, rfl⟩
   obtain ⟨tl, hq⟩ : ∃ tl, q.data.toList = c :: tl := ⟨q.data.toList.drop 1, by
    have h1 : q.data.toList.drop 0 = q[0]'hpos :: q.data.toList.drop 1 := List.drop_eq_getElem_cons (show 0 < q.data.toList.length from hpos)
    rw [hc] at h1
    exact h1⟩
   have hlen : q.size = tl.length + 1 := by rw [← len13, hq, List.length_cons]
   clear hne0
   by_cases h36 : c = 36
   ·subst h36
    have HP1 := hid (fun W => hasP13 q ⟨#[36]⟩ true W (by rw [hq]; rfl))
    by_cases h2 : tl.getD 0 0 = 36
    ·have HP2 := hid (fun W => hasP13 q ⟨#[36, 36]⟩ true W (by
      show pre [36, 36] _ = true
      rw [hq, pre_two _ _ _ (by decide) (by decide)]
      exact decide_eq_true ⟨rfl, h2⟩))
     obtain ⟨tl2, rfl⟩ : ∃ tl2, tl = 36 :: tl2 := by
      cases tl with
      | nil => exact absurd h2 (by decide)
      | cons x t2 => exact ⟨t2, by rw [show x = 36 from h2]⟩
     have hp2 : (2 : Int) ≤ (q.size : Int) := by rw [List.length_cons] at hlen; omega
     obtain ⟨q2, hx⟩ : ∃ q2, q.extract 2 q.size = q2 := ⟨_, rfl⟩
     have hq2 : q2.data.toList = tl2 := by rw [← hx, rest13, hq]; rfl
     have HLT : Hid (q2.size < q.size) := hid (by rw [← len13 q2, hq2, hlen, List.length_cons]; omega)
     have HN : Hid (LitTo (d + 1) s.data.toList (t ++ [36]) q2.data.toList) := hid (by rw [hq2]; have := HL.out; rw [hq] at this; exact this.two)
     obtain ⟨c, hce⟩ : ∃ c : UInt8, c = 36 := ⟨_, rfl⟩
     rw [← hce] at hc HN
     have HCE := hid hce
     clear hb hq h2 hlen hq2 hce
     obtain ⟨YS, hYS⟩ : ∃ YS, YS = t.map encB := ⟨_, rfl⟩
     rw [← hYS] at hown
     have HYS := hid hYS
     clear hYS
     obtain ⟨al, hal⟩ : ∃ al, t.length = al := ⟨_, rfl⟩
     have hal2 : al ≤ 100000 := by omega
     rw [hal] at hown
     have HAL := hid hal
     have HBASE : Hid (w.heap.size ≤ wr.heap.size) := hid HG.out.size
     clear hal htl
     go_wp2_with (first | (go_at_call 33; refine HE.out.mono ?_; rintro e w1 ⟨rfl, rfl⟩) | (go_at_call 48; refine (HP1.out _).mono ?_; rintro e w1 ⟨rfl, rfl⟩) | (go_at_call 48; refine (HP2.out _).mono ?_; rintro e w1 ⟨rfl, rfl⟩) | (at_builtin; refine wpList_append_own _ rfl _ _ 62 rfl w.heap.size 5 i0 _ 1 1 Tryd.underlying62 hi hz0 hz1 hz2 rfl (by decide) _ _ _ rfl (hown.alloc _) ⟨wr.heap.size, 0, none⟩ 1 1 [.int .u8 (c.toNat : Int)] rfl rfl ?c1 ?c2 ?c3 ?c4 ?c5 ?_))
     case c1 => exact cells_new wr _ _
     case c2 => exact one_one _
     case c3 => unfold maxLen; omega
     case c4 => omega
     case c5 => have := HBASE.out; simp; omega
     ·intro v' w2 hown' hgrow hnil
      have HW2 := hid hown'
      have hne : ∀ k, Value.ownBlock u5 = some k → k ≠ g := fun k hk e => by have h1 := (hown.lt k hk).1; have h2 := HGL.out; omega
      have hR2 : RdB w2 g q := (HR.out.below ((Below.refl _ _).alloc (Nat.le_refl _) _)).other hgrow fun e => hne g e rfl
      have HG2 : Hid (w.grownBy w2 (some g)) := hid ((HG.out.trans (World.grownBy_alloc _ _ _)).andThen hgrow fun k hk => .inl (by have h1 := (hown.lt k hk).1; exact h1))
      obtain ⟨c0', f0'⟩ := hR2.cells
      have HS := hid (hR2.set q2)
      clear hown' hgrow hown hnil hne hR2
      go_wp2
      go_roundw
      case measure => rw [rdM_of HS.out.1, rdM_of HR.out]; exact HLT.out
      case rel =>
       refine ⟨t ++ [c], q2, by rw [List.length_append, HAL.out]; have h1 := HN.out.2; rw [List.length_append, HAL.out] at h1; have h2 := HSZ.out; simp only [len13] at h1; show al + 1 ≤ _; have h3 : [c].length = 1 := rfl; omega, ?_, hid HS.out.1, hid (HG2.out.trans HS.out.2), HN⟩
       rw [map_snoc, List.length_append, HAL.out, ← HYS.out]; exact owns_keep HW2.out fun k hk => set_oth _ _ _ _ fun e => (by have h1 := (HW2.out.lt k hk).1; have h2 := HGL.out; have e : k = g := e; omega)
    ·have HP2 := hid (fun W => hasP13 q ⟨#[36, 36]⟩ false W (by
      show pre [36, 36] _ = false
      rw [hq, pre_two _ _ _ (by decide) (by decide)]
      exact decide_eq_false fun e => h2 e.2))
     have HH : Hid (Halt (d + 1) q.data.toList) := hid (.inr ⟨tl, hq, h2⟩)
     clear hb hq h2 hlen hc hpos1 hpos2
     rcases own_cases hown with ⟨hv, hA⟩ | ⟨gv, cap, hv2, hcv⟩
     ·subst hv
      have HA := hid hA
      clear hown hA
      have hcv := conv_nil wr
      go_wp2_with (first | (go_at_call 33; refine HE.out.mono ?_; rintro e w1 ⟨rfl, rfl⟩) | (go_at_call 48; refine (HP1.out _).mono ?_; rintro e w1 ⟨rfl, rfl⟩) | (go_at_call 48; refine (HP2.out _).mono ?_; rintro e w1 ⟨rfl, rfl⟩))
      go_ret
      exact ⟨_, _, rfl, HR.out, HG.out, by rw [HA.out] at HL; exact HL.out, HH.out⟩
     ·subst hv2
      clear hown
      obtain ⟨A, hA⟩ : ∃ A : ByteArray, A = ⟨t.toArray⟩ := ⟨_, rfl⟩
      rw [← hA] at hcv
      have HA := hid hA
      clear hA
      go_wp2_with (first | (go_at_call 33; refine HE.out.mono ?_; rintro e w1 ⟨rfl, rfl⟩) | (go_at_call 48; refine (HP1.out _).mono ?_; rintro e w1 ⟨rfl, rfl⟩) | (go_at_call 48; refine (HP2.out _).mono ?_; rintro e w1 ⟨rfl, rfl⟩))
      go_ret
      exact ⟨_, _, rfl, HR.out, HG.out, by rw [HA.out]; show LitTo _ _ t.toArray.toList _; rw [List.toList_toArray]; exact HL.out, HH.out⟩
   ·have HP1 := hid (fun W => hasP13 q ⟨#[36]⟩ false W (by
     show pre [36] _ = false
     rw [hq, pre_one _ _ (by decide)]
     exact decide_eq_false h36))
    obtain ⟨q2, hx⟩ : ∃ q2, q.extract 1 q.size = q2 := ⟨_, rfl⟩
    have hq2 : q2.data.toList = tl := by rw [← hx, rest13, hq]; rfl
    have HLT : Hid (q2.size < q.size) := hid (by rw [← len13 q2, hq2, hlen]; omega)
    have HN : Hid (LitTo (d + 1) s.data.toList (t ++ [c]) q2.data.toList) := hid (by rw [hq2]; have := HL.out; rw [hq] at this; rw [hq] at hb; exact this.byte hb h36)
    clear hb hq h36 hlen hq2
    obtain ⟨YS, hYS⟩ : ∃ YS, YS = t.map encB := ⟨_, rfl⟩
    rw [← hYS] at hown
    have HYS := hid hYS
    clear hYS
    obtain ⟨al, hal⟩ : ∃ al, t.length = al := ⟨_, rfl⟩
    have hal2 : al ≤ 100000 := by omega
    rw [hal] at hown
    have HAL := hid hal
    have HBASE : Hid (w.heap.size ≤ wr.heap.size) := hid HG.out.size
    clear hal htl
    go_wp2_with (first | (go_at_call 33; refine HE.out.mono ?_; rintro e w1 ⟨rfl, rfl⟩) | (go_at_call 48; refine (HP1.out _).mono ?_; rintro e w1 ⟨rfl, rfl⟩) | (at_builtin; refine wpList_append_own _ rfl _ _ 62 rfl w.heap.size 5 i0 _ 1 1 Tryd.underlying62 hi hz0 hz1 hz2 rfl (by decide) _ _ _ rfl (hown.alloc _) ⟨wr.heap.size, 0, none⟩ 1 1 [.int .u8 (c.toNat : Int)] rfl rfl ?c1 ?c2 ?c3 ?c4 ?c5 ?_))
    case c1 => exact cells_new wr _ _
    case c2 => exact one_one _
    case c3 => unfold maxLen; omega
    case c4 => omega
    case c5 => have := HBASE.out; simp; omega
    ·intro v' w2 hown' hgrow hnil
     have HW2 := hid hown'
     have hne : ∀ k, Value.ownBlock u5 = some k → k ≠ g := fun k hk e => by have h1 := (hown.lt k hk).1; have h2 := HGL.out; omega
     have hR2 : RdB w2 g q := (HR.out.below ((Below.refl _ _).alloc (Nat.le_refl _) _)).other hgrow fun e => hne g e rfl
     have HG2 : Hid (w.grownBy w2 (some g)) := hid ((HG.out.trans (World.grownBy_alloc _ _ _)).andThen hgrow fun k hk => .inl (by have h1 := (hown.lt k hk).1; exact h1))
     obtain ⟨c0', f0'⟩ := hR2.cells
     have HS := hid (hR2.set q2)
     clear hown' hgrow hown hnil hne hR2
     go_wp2
     go_roundw
     case measure => rw [rdM_of HS.out.1, rdM_of HR.out]; exact HLT.out
     case rel =>
      refine ⟨t ++ [c], q2, by rw [List.length_append, HAL.out]; have h1 := HN.out.2; rw [List.length_append, HAL.out] at h1; have h2 := HSZ.out; simp only [len13] at h1; show al + 1 ≤ _; have h3 : [c].length = 1 := rfl; omega, ?_, hid HS.out.1, hid (HG2.out.trans HS.out.2), HN⟩
      rw [map_snoc, List.length_append, HAL.out, ← HYS.out]; exact owns_keep HW2.out fun k hk => set_oth _ _ _ _ fun e => (by have h1 := (HW2.out.lt k hk).1; have h2 := HGL.out; have e : k = g := e; omega)
end
end Go.Proofs.YtkcilmmaggmmoaaDoor
