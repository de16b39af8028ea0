/- SubVal -/
import Derived.Deep.LoopGhost
import Derived.Lib.OthersKept
import Derived.Test.YtkcilmmaggmmoaaDoorGT1
import Derived.Test.YtkcilmmaggmmoaaDoorGT12
import Derived.Test.YtkcilmmaggmmoaaDoorGT13
import Derived.Test.YtkcilmmaggmmoaaDoorGT14
import Derived.Test.YtkcilmmaggmmoaaDoorGT15
import Derived.Test.YtkcilmmaggmmoaaDoorGT6
set_option linter.unusedVariables false
set_option linter.unusedSimpArgs false
set_option maxRecDepth 100000
set_option maxHeartbeats 16000000
open Go.Lib (hid)
namespace Go.Proofs.YtkcilmmaggmmoaaDoor
namespace Nw
end Nw
namespace S14
end S14
namespace T13
end T13
namespace V12
end V12
end Go.Proofs.YtkcilmmaggmmoaaDoor
namespace Go.Proofs.YtkcilmmaggmmoaaDoor
section
open Go.RowKit
open Nw V12 T13 S14
def VOut (M B0 : Nat) (R : SR) (w : World) (e : Ending) (w' : World) : Prop := Below w.heap.size w w' ∧ match R with
 | .ok x => e = .returned (.string (ba x))
 | .err er ky y => ∃ (k t : ByteArray) (op : Int) (A : Option Addr) (n c : Nat) (s : List Pt), e = .panicked [{ v := AbV er k t op (.slice A n c), recovered := false }] ∧ k = ba ky ∧ PtL (· < B0) w' (.slice A n c) s ∧ txtL s = y ∧ WfL 1 s ∧ y.length ≤ M
theorem say_step14 (E : Env) (out : L8) (ps : List Pt) (j : Nat) (h : j < ps.length) : sayL E out (ps.drop j) = match sayP E (ps[j]'h) with
  | .err e k y => .err e k y
  | .ok t => if 8192 < (out ++ t).length then .err 9 [] [] else sayL E (out ++ t) (ps.drop (j + 1)) := by
 rw [List.drop_eq_getElem_cons h, sayL]
 cases sayP E (ps[j]'h) <;> rfl
theorem heap_lt14 {W : World} {k : Nat} {o : Obj} (h : W.heap[k]? = some o) : k < W.heap.size := (Array.getElem?_eq_some_iff.1 h).1
theorem builder_below14 {T e : TypeId} {B b : Nat} {bs : List Value} {W W' : World} (h : Lib.IsBuilderF T e B b bs W) (hb : Below W.heap.size W W') : Lib.IsBuilderF T e B b bs W' := by
 have one : ∀ p, Lib.BuilderAtF T e B b p bs W → Lib.BuilderAtF T e B b p bs W' := by
  rintro p ⟨hB, v, hbk, ⟨hl, hown⟩, hne⟩
  refine ⟨hB, v, (hb.block b (heap_lt14 hbk)).trans hbk, ⟨hl, ?_⟩, hne⟩
  rcases hown with h0 | ⟨g, cap, cur, fz, h1, h2, h3, h4⟩
  ·exact .inl h0
  ·exact .inr ⟨g, cap, cur, fz, h1, h2, (hb.block g (heap_lt14 h3)).trans h3, h4⟩
 exact h.elim (fun x => .inl (one _ x)) (fun x => .inr (one _ x))
theorem bytes_more14 (l : L8) (q : ByteArray) : Lib.byteCells l ++ Lib.strCells q = Lib.byteCells (l ++ q.data.toList) := by
 rw [Lib.strCells_eq]; unfold Lib.byteCells; rw [List.map_append]
def Bw (w : World) (l : L8) (W : World) : Prop := Lib.IsBuilderF 79 5 w.heap.size w.heap.size (Lib.byteCells l) W ∧ Below w.heap.size w W
theorem Bw.go {w W W' : World} {l : L8} (h : Bw w l W) (hb : Below W.heap.size W W') : Bw w l W' := ⟨builder_below14 h.1 hb, h.2.trans (hb.mono h.2.size)⟩
theorem valueOf_of (M B0 : Nat) (E : Env) (ps : List Pt) (hn5 : ps.length ≤ 1000000) (c3 v : Value) (D : Int) (w : World) (hB0 : B0 ≤ w.heap.size) (hp : PtL (· < B0) w c3 ps)
  (HPart : ∀ (j : Nat) (h : j < ps.length) (c0 c1 c2 c3 : Value) (W : World), Below w.heap.size w W → PtC (· < B0) W (ps[j]'h) c0 c1 c2 c3 → Calls Tryd.prog 35 #[.agg #[c0, c1, c2, c3], v, .int .i64 D] W (VOut M B0 (sayP E (ps[j]'h)) W))
  (HLen : ∀ (j : Nat) (h : j < ps.length) (t : L8), sayP E (ps[j]'h) = .ok t → t.length ≤ 2000000) :
  Calls Tryd.prog 21 #[c3, v, .int .i64 D] w (VOut M B0 (sayL E [] ps) w) := by
 have HP := hid hp
 have HPV := hid HPart
 have HLE := hid HLen
 obtain ⟨A, cap, rfl, hcap, hcm, -⟩ := hp
 unfold maxLen at hcm
 obtain ⟨n, hn⟩ : ∃ n, n = ps.length := ⟨_, rfl⟩
 rw [← hn] at hcap HP ⊢
 have HN := hid hn
 have hn1 : n ≤ 1000000 := by omega
 obtain ⟨R, hR⟩ : ∃ R, sayL E [] ps = R := ⟨_, rfl⟩
 rw [hR]
 have HR := hid hR
 have HBU : Hid (Bw w [] (w.alloc (.cells #[.pointer none, .slice none 0 0] 79))) := hid ⟨Lib.IsBuilderF.of (Lib.fresh_isBuilder 79 5 w), (Below.refl w.heap.size w).alloc (Nat.le_refl _) _⟩
 clear hR hn hn5 HPart HLen
 go_enter Tryd.func21, Tryd.ntmps21
 go_wp2
 go_loopw [9, 10, 13] (fun s9 s10 i wr => ∃ (j : Nat) (T : L8), j ≤ n ∧ T.length ≤ 8192 ∧ i = .int .i64 (j : Int) ∧ Hid (sayL E T (ps.drop j) = R) ∧ Hid (Bw w T wr)) (fun _ _ i _ => n - (intOf i).toNat)
 case atStart => exact ⟨0, [], Nat.zero_le _, Nat.zero_le _, rfl, hid (by rw [List.drop_zero]; exact HR.out), HBU⟩
 case round =>
  clear HBU
  obtain ⟨j, T, hj, hTs, rfl, HS, HB⟩ := hrel
  by_cases hlt : j < n
  ·have hjl : Hid (j < ps.length) := hid (by have := HN.out; omega)
   obtain ⟨b, o, e0, e1, e2, e3, rfl, hbl, x0, x1, x2, x3, hsub⟩ := PtL.at_ HP.out j hjl.out
   have y0 := (HB.out.2.cell (p := ⟨b, o + j * 4, none⟩) (Nat.lt_of_lt_of_le hbl hB0)).trans x0
   have y1 := (HB.out.2.cell (p := ⟨b, o + j * 4 + 1, none⟩) (Nat.lt_of_lt_of_le hbl hB0)).trans x1
   have y2 := (HB.out.2.cell (p := ⟨b, o + j * 4 + 2, none⟩) (Nat.lt_of_lt_of_le hbl hB0)).trans x2
   have y3 := (HB.out.2.cell (p := ⟨b, o + j * 4 + 3, none⟩) (Nat.lt_of_lt_of_le hbl hB0)).trans x3
   have hst := say_step14 E T ps j hjl.out
   rw [HS.out] at hst
   obtain ⟨p, hpe⟩ : ∃ p, ps[j]'hjl.out = p := ⟨_, rfl⟩
   have hsub9 := hsub
   rw [hpe] at hsub9
   obtain ⟨nm, tx, op, sb⟩ := p
   obtain ⟨rfl, rfl, rfl, hsb⟩ := hsub9.sub
   obtain ⟨B3, c3, rfl, -⟩ := hsb
   obtain ⟨X, hX⟩ : ∃ X, ba nm = X := ⟨_, rfl⟩
   obtain ⟨Y, hY⟩ : ∃ Y, ba tx = Y := ⟨_, rfl⟩
   obtain ⟨m3, hm3⟩ : ∃ m3, sb.length = m3 := ⟨_, rfl⟩
   have hal : Below wr.heap.size wr (wr.alloc (.cells #[.string X, .string Y, .int .i64 op, .slice B3 m3 c3] 54)) := (Below.refl _ _).alloc (Nat.le_refl _) _
   have hB1 := HB.out.go hal
   have HCP := hid (HPV.out j hjl.out _ _ _ _ _ hB1.2 (hsub.keep fun b hb => ⟨hb, hB1.2.block b (Nat.lt_of_lt_of_le hb hB0)⟩))
   rw [hX] at y0 HCP
   rw [hY] at y1 HCP
   rw [hm3] at y3 HCP
   have HB1 := hid hB1
   have hjz : (j : Int) < (n : Int) := by omega
   have hjc : (j : Int) < (cap : Int) := by omega
   clear hsub hpe hal hB1 hX hY hm3 x0 x1 x2 x3
   cases hr : sayP E (ps[j]'hjl.out) with
   | err e k y =>
    rw [hr] at HCP hst
    have HRE : Hid (R = .err e k y) := hid hst
    clear hst hr
    go_wp2_with fail
    refine HCP.out.mono ?_
    rintro x w2 ⟨hb2, k', t', op', A', n', c', s', rfl, hk, hs, ht⟩
    refine ⟨rfl, ?_⟩
    rw [HRE.out]
    exact ⟨HB1.out.2.trans (hb2.mono HB1.out.2.size), k', t', op', A', n', c', s', rfl, hk, hs, ht⟩
   | ok t =>
    rw [hr] at HCP hst
    obtain ⟨U, hU⟩ : ∃ U, ba t = U := ⟨_, rfl⟩
    have hUd : U.data.toList = t := by rw [← hU, ba_data]
    have hUs : U.size ≤ 2000000 := by rw [← hU]; show t.toArray.size ≤ 2000000; rw [List.size_toArray]; exact HLE.out j hjl.out t hr
    have hlt9 : (T ++ t).length = T.length + U.size := by rw [List.length_append, ← hUd]; rfl
    have HUD := hid hUd
    simp only [] at hst
    rw [hlt9] at hst
    have HCQ : Hid (Calls Tryd.prog 35 #[.agg #[.string X, .string Y, .int .i64 op, .slice B3 m3 c3], v, .int .i64 D] (wr.alloc (.cells #[.string X, .string Y, .int .i64 op, .slice B3 m3 c3] 54)) (fun e w' => Below (wr.alloc (.cells #[.string X, .string Y, .int .i64 op, .slice B3 m3 c3] 54)).heap.size (wr.alloc (.cells #[.string X, .string Y, .int .i64 op, .slice B3 m3 c3] 54)) w' ∧ e = .returned (.string U))) := by
     rw [← hU]; exact HCP
    obtain ⟨tl, htl⟩ : ∃ tl, T.length = tl := ⟨_, rfl⟩
    rw [htl] at hst hTs
    have HTL := hid htl
    clear hUd hU hlt9 hr HCP htl
    by_cases hb : 8192 < tl + U.size
    ·have hbi : (8192 : Int) - (tl : Int) < (U.size : Int) := by omega
     have HRE : Hid (R = .err 9 [] []) := hid (by rw [if_pos hb] at hst; exact hst)
     clear hst
     go_wp2_with first
      | (go_at_call 35; refine HCQ.out.mono ?_; rintro x w2 ⟨hb2, rfl⟩; have HB2 := hid (HB1.out.go hb2); clear hb2)
      | (go_at_call 36; refine (Tryd.Builder_Len_f w.heap.size w.heap.size _ w2 HB2.out.1).mono ?_; rintro e w3 ⟨rfl, rfl⟩; rw [Lib.byteCells_length, HTL.out])
     refine ⟨rfl, ?_⟩
     rw [HRE.out]
     exact ⟨HB2.out.2, ⟨#[]⟩, ⟨#[]⟩, 0, none, 0, 0, [], rfl, rfl, ptL_nil _ _, by rw [txtL], by rw [WfL]; trivial, Nat.zero_le _⟩
    ·have hbi : ¬ (8192 : Int) - (tl : Int) < (U.size : Int) := by omega
     have HNX : Hid (sayL E (T ++ U.data.toList) (ps.drop (j + 1)) = R) := hid (by rw [if_neg hb] at hst; rw [HUD.out]; exact hst.symm)
     have HSZ : Hid ((T ++ U.data.toList).length ≤ 8192) := hid (by rw [List.length_append, HTL.out]; show tl + U.data.size ≤ 8192; have : U.data.size = U.size := rfl; omega)
     clear hst
     go_wp2_with first
      | (go_at_call 35; refine HCQ.out.mono ?_; rintro x w2 ⟨hb2, rfl⟩; have HB2 := hid (HB1.out.go hb2); clear hb2)
      | (go_at_call 36; refine (Tryd.Builder_Len_f w.heap.size w.heap.size _ w2 HB2.out.1).mono ?_; rintro e w3 ⟨rfl, rfl⟩; rw [Lib.byteCells_length, HTL.out])
      | (go_at_call 37; refine (Tryd.Builder_WriteString_k w.heap.size w.heap.size (Lib.byteCells T) U _ HB2.out.1 (by rw [Lib.byteCells_length, HTL.out]; omega) HB2.out.2.size).mono ?_; rintro e3 w4 ⟨rfl, hbu3, hb3, ho3⟩; have HB3 : Hid (Bw w (T ++ U.data.toList) w4) := hid ⟨.inr (by rw [← bytes_more14]; exact hbu3), HB2.out.2.trans hb3⟩; clear hbu3 hb3 ho3)
     go_roundw
     case measure => simp [intOf]; omega
     case rel => exact ⟨j + 1, T ++ U.data.toList, by omega, HSZ.out, by go_num, HNX, HB3⟩
  ·obtain rfl : j = n := by omega
   have HE : Hid (R = .ok T) := hid (by
    have := HS.out
    rw [List.drop_of_length_le (by have := HN.out; omega), sayL] at this
    exact this.symm)
   have HST := hid (Tryd.Builder_String_any_k w.heap.size w.heap.size T wr HB.out.1 HB.out.2.size)
   go_wp2_with (go_at_call 38; refine HST.out.mono ?_; rintro e w2 ⟨rfl, -, hb2, -⟩)
   go_ret
   rw [HE.out]
   exact ⟨HB.out.2.trans hb2, rfl⟩
end
end Go.Proofs.YtkcilmmaggmmoaaDoor
