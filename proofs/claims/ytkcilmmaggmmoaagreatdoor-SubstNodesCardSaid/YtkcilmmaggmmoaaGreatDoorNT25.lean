/- ShelfK, ShelfL, SubVal -/
import Derived.Deep.LoopGhost
import Derived.Lib.OthersKept
import Derived.Shelf.Lay
import Derived.Shelf.Strings.BuilderF
import Derived.Shelf.Strings.BuilderK
import Derived.Test.YtkcilmmaggmmoaaGreatDoorNT12
import Derived.Test.YtkcilmmaggmmoaaGreatDoorNT23
import Derived.Test.YtkcilmmaggmmoaaGreatDoorNT24
import Derived.Test.YtkcilmmaggmmoaaGreatDoorNT5
import Derived.Test.YtkcilmmaggmmoaaGreatDoorProg
set_option linter.unusedVariables false
set_option linter.unusedSimpArgs false
set_option maxRecDepth 100000
set_option maxHeartbeats 16000000
open Go.Lib (hid)
namespace Go.Proofs.YtkcilmmaggmmoaaGreatDoor
namespace Nw
end Nw
namespace S14
end S14
namespace T13
end T13
namespace V12
end V12
end Go.Proofs.YtkcilmmaggmmoaaGreatDoor
namespace Go.Proofs
open Go.Shelf Go.RowKit
def Tryz.lays166k_ren : Go.Shelf.Ren := ⟨fun | 166 => 62 | 240 => 77 | 276 => 104 | n => n, fun | 0 => 0 | 3 => 3 | 4 => 4 | 5 => 5 | 9 => 9 | 20 => 20 | 37 => 98 | 70 => 97 | 72 => 100 | 75 => 104 | 80 => 107 | 164 => 135 | n => n, fun | n => n⟩
theorem Tryz.lays166k : Go.Proofs.Lays.n166 Tryz.prog Tryz.lays166k_ren := {
 mixed := by kernel_rfl
 f166 := Tryz.func62.trans (congrArg some (by kernel_rfl))
 f240 := Tryz.func77.trans (congrArg some (by kernel_rfl))
 f276 := Tryz.func104.trans (congrArg some (by kernel_rfl))
 t0 := Tryz.underlying0
 a0 := Tryz.isAgg0
 z0 := Tryz.sizeOf0
 v0 := Tryz.zeroValue0
 t3 := Tryz.underlying3
 a3 := Tryz.isAgg3
 z3 := Tryz.sizeOf3
 v3 := Tryz.zeroValue3
 t4 := Tryz.underlying4
 a4 := Tryz.isAgg4
 z4 := Tryz.sizeOf4
 v4 := Tryz.zeroValue4
 t9 := Tryz.underlying9
 a9 := Tryz.isAgg9
 z9 := Tryz.sizeOf9
 v9 := Tryz.zeroValue9
 t20 := Tryz.underlying20
 a20 := Tryz.isAgg20
 z20 := Tryz.sizeOf20
 v20 := Tryz.zeroValue20
 t37 := Tryz.underlying98
 a37 := Tryz.isAgg98
 z37 := Tryz.sizeOf98
 v37 := Tryz.zeroValue98
 t70 := Tryz.underlying97
 a70 := Tryz.isAgg97
 z70 := Tryz.sizeOf97
 v70 := Tryz.zeroValue97
 t72 := Tryz.underlying100
 a72 := Tryz.isAgg100
 z72 := Tryz.sizeOf100
 v72 := Tryz.zeroValue100
 t75 := Tryz.underlying104
 a75 := Tryz.isAgg104
 z75 := Tryz.sizeOf104
 v75 := Tryz.zeroValue104
 t164 := Tryz.underlying135
 a164 := Tryz.isAgg135
 z164 := Tryz.sizeOf135
 v164 := Tryz.zeroValue135 }
def Tryz.lays169k_ren : Go.Shelf.Ren := ⟨fun | 169 => 63 | n => n, fun | 0 => 0 | 3 => 3 | 5 => 5 | 9 => 9 | 37 => 98 | 70 => 97 | 72 => 100 | 127 => 116 | n => n, fun | n => n⟩
theorem Tryz.lays169k : Go.Proofs.Lays.n169 Tryz.prog Tryz.lays169k_ren := {
 mixed := by kernel_rfl
 f169 := Tryz.func63.trans (congrArg some (by kernel_rfl))
 t0 := Tryz.underlying0
 a0 := Tryz.isAgg0
 z0 := Tryz.sizeOf0
 v0 := Tryz.zeroValue0
 t3 := Tryz.underlying3
 a3 := Tryz.isAgg3
 z3 := Tryz.sizeOf3
 v3 := Tryz.zeroValue3
 t9 := Tryz.underlying9
 a9 := Tryz.isAgg9
 z9 := Tryz.sizeOf9
 v9 := Tryz.zeroValue9
 t37 := Tryz.underlying98
 a37 := Tryz.isAgg98
 z37 := Tryz.sizeOf98
 v37 := Tryz.zeroValue98
 t70 := Tryz.underlying97
 a70 := Tryz.isAgg97
 z70 := Tryz.sizeOf97
 v70 := Tryz.zeroValue97
 t72 := Tryz.underlying100
 a72 := Tryz.isAgg100
 z72 := Tryz.sizeOf100
 v72 := Tryz.zeroValue100
 t127 := Tryz.underlying116
 a127 := Tryz.isAgg116
 z127 := Tryz.sizeOf116
 v127 := Tryz.zeroValue116 }
theorem Tryz.Builder_Extra166k : Builder.Extra Tryz.prog Tryz.lays166k_ren := {
 sizeBuilder := by kernel_rfl
 liesBuilder := by kernel_rfl
 t5 := Tryz.underlying5
 a5 := Tryz.isAgg5
 z5 := Tryz.sizeOf5
 v5 := Tryz.zeroValue5
 infoByte := by kernel_rfl
 cellsByte := by kernel_rfl
 sizeByte := by kernel_rfl
 neB5 := by decide }
theorem Tryz.Builder_Extra169k : Builder.Extra Tryz.prog Tryz.lays169k_ren := {
 sizeBuilder := by kernel_rfl
 liesBuilder := by kernel_rfl
 t5 := Tryz.underlying5
 a5 := Tryz.isAgg5
 z5 := Tryz.sizeOf5
 v5 := Tryz.zeroValue5
 infoByte := by kernel_rfl
 cellsByte := by kernel_rfl
 sizeByte := by kernel_rfl
 neB5 := by decide }
theorem Tryz.Builder_WriteString_k (B b : Nat) (bs : List Value) (s : ByteArray) (w : World) (h : Lib.IsBuilderF 100 5 B b bs w) (hlen : bs.length + s.size ≤ 140737488355328) (hBw : B ≤ w.heap.size) :
  Calls Tryz.prog 62 #[.pointer (some ⟨b, 0, none⟩), .string s] w fun e w' => e = .returned (.tuple #[.int .i64 s.size, .nilIface]) ∧ (Lib.BuilderAtF 100 5 B b (.pointer (some ⟨b, 0, none⟩)) (bs ++ Lib.strCells s) w' ∧ Below B w w' ∧ Lib.OthersKept 5 (some b) w w') := Any.Builder_WriteString_k Tryz.lays166k Tryz.Builder_Extra166k B b bs s w h hlen hBw
theorem Tryz.Builder_String_any_k (B b : Nat) (l : List UInt8) (w : World) (h : Lib.IsBuilderF 100 5 B b (Lib.byteCells l) w) (hBw : B ≤ w.heap.size) :
  Calls Tryz.prog 63 #[.pointer (some ⟨b, 0, none⟩)] w fun e w' => e = .returned (.string ⟨l.toArray⟩) ∧ (Lib.IsBuilderF 100 5 B b (Lib.byteCells l) w' ∧ Below B w w' ∧ Lib.OthersKept 5 (some b) w w') := Any.Builder_String_any_k Tryz.lays169k Tryz.Builder_Extra169k B b l w h hBw
end Go.Proofs
namespace Go.Proofs
open Go.Shelf
def Tryz.lays170_ren : Go.Shelf.Ren := ⟨fun | 170 => 61 | n => n, fun | 70 => 97 | 3 => 3 | 0 => 0 | 72 => 100 | 37 => 98 | 5 => 5 | n => n, fun | n => n⟩
theorem Tryz.lays170 : Go.Proofs.Lays.n170 Tryz.prog Tryz.lays170_ren := {
 mixed := by kernel_rfl
 f170 := Tryz.func61.trans (congrArg some (by kernel_rfl))
 t0 := Tryz.underlying0
 a0 := Tryz.isAgg0
 z0 := Tryz.sizeOf0
 v0 := Tryz.zeroValue0
 t3 := Tryz.underlying3
 a3 := Tryz.isAgg3
 z3 := Tryz.sizeOf3
 v3 := Tryz.zeroValue3
 t37 := Tryz.underlying98
 a37 := Tryz.isAgg98
 z37 := Tryz.sizeOf98
 v37 := Tryz.zeroValue98
 t70 := Tryz.underlying97
 a70 := Tryz.isAgg97
 z70 := Tryz.sizeOf97
 v70 := Tryz.zeroValue97
 t72 := Tryz.underlying100
 a72 := Tryz.isAgg100
 z72 := Tryz.sizeOf100
 v72 := Tryz.zeroValue100 }
open Go.RowKit in
theorem Tryz.Builder_Len_f (B b : Nat) (bs : List Value) (w : World) (h : Lib.IsBuilderF 100 5 B b bs w) :
  Calls Tryz.prog 61 #[.pointer (some ⟨b, 0, none⟩)] w fun e w' => e = .returned (.int .i64 bs.length) ∧ w' = w := Any.Builder_Len_f Tryz.lays170 B b bs w h
end Go.Proofs
namespace Go.Proofs.YtkcilmmaggmmoaaGreatDoor
section
open Go.RowKit
open Nw V12 T13 S14
def VOut (M B0 : Nat) (R : SR) (w : World) (e : Ending) (w' : World) : Prop := Below w.heap.size w w' ∧ match R with
 | .ok x => e = .returned (.string (ba x))
 | .err er ky y => ∃ (k t : ByteArray) (op : Int) (A : Option Addr) (n c : Nat) (s : List Pt), e = .panicked [{ v := AbV er k t op (.slice A n c), recovered := false }] ∧ k = ba ky ∧ PtL (· < B0) w' (.slice A n c) s ∧ txtL s = y ∧ WfL 1 s ∧ y.length ≤ M
theorem say_step14 (E : Env) (out : L8) (ps : List Pt) (j : Nat) (h : j < ps.length) : sayL E out (ps.drop j) = match sayP E (ps[j]'h) with
  | .err e k y => .err e k y
  | .ok t => if 8192 < (out ++ t).length then .err 9 [] [] else sayL E (out ++ t) (ps.drop (j + 1)) := by
 rw [List.drop_eq_getElem_cons h, sayL]
 cases sayP E (ps[j]'h) <;> rfl
theorem heap_lt14 {W : World} {k : Nat} {o : Obj} (h : W.heap[k]? = some o) : k < W.heap.size := (Array.getElem?_eq_some_iff.1 h).1
theorem builder_below14 {T e : TypeId} {B b : Nat} {bs : List Value} {W W' : World} (h : Lib.IsBuilderF T e B b bs W) (hb : Below W.heap.size W W') : Lib.IsBuilderF T e B b bs W' := by
 have one : ∀ p, Lib.BuilderAtF T e B b p bs W → Lib.BuilderAtF T e B b p bs W' := by
  rintro p ⟨hB, v, hbk, ⟨hl, hown⟩, hne⟩
  refine ⟨hB, v, (hb.block b (heap_lt14 hbk)).trans hbk, ⟨hl, ?_⟩, hne⟩
  rcases hown with h0 | ⟨g, cap, cur, fz, h1, h2, h3, h4⟩
  ·exact .inl h0
  ·exact .inr ⟨g, cap, cur, fz, h1, h2, (hb.block g (heap_lt14 h3)).trans h3, h4⟩
 exact h.elim (fun x => .inl (one _ x)) (fun x => .inr (one _ x))
theorem bytes_more14 (l : L8) (q : ByteArray) : Lib.byteCells l ++ Lib.strCells q = Lib.byteCells (l ++ q.data.toList) := by
 rw [Lib.strCells_eq]; unfold Lib.byteCells; rw [List.map_append]
def Bw (w : World) (l : L8) (W : World) : Prop := Lib.IsBuilderF 100 5 w.heap.size w.heap.size (Lib.byteCells l) W ∧ Below w.heap.size w W
theorem Bw.go {w W W' : World} {l : L8} (h : Bw w l W) (hb : Below W.heap.size W W') : Bw w l W' := ⟨builder_below14 h.1 hb, h.2.trans (hb.mono h.2.size)⟩
theorem valueOf_of (M B0 : Nat) (E : Env) (ps : List Pt) (hn5 : ps.length ≤ 1000000) (c3 v : Value) (D : Int) (w : World) (hB0 : B0 ≤ w.heap.size) (hp : PtL (· < B0) w c3 ps)
  (HPart : ∀ (j : Nat) (h : j < ps.length) (c0 c1 c2 c3 : Value) (W : World), Below w.heap.size w W → PtC (· < B0) W (ps[j]'h) c0 c1 c2 c3 → Calls Tryz.prog 60 #[.agg #[c0, c1, c2, c3], v, .int .i64 D] W (VOut M B0 (sayP E (ps[j]'h)) W))
  (HLen : ∀ (j : Nat) (h : j < ps.length) (t : L8), sayP E (ps[j]'h) = .ok t → t.length ≤ 2000000) :
  Calls Tryz.prog 45 #[c3, v, .int .i64 D] w (VOut M B0 (sayL E [] ps) w) := by
 have HP := hid hp
 have HPV := hid HPart
 have HLE := hid HLen
 obtain ⟨A, cap, rfl, hcap, hcm, -⟩ := hp
 unfold maxLen at hcm
 obtain ⟨n, hn⟩ : ∃ n, n = ps.length := ⟨_, rfl⟩
 rw [← hn] at hcap HP ⊢
 have HN := hid hn
 have hn1 : n ≤ 1000000 := by omega
 obtain ⟨R, hR⟩ : ∃ R, sayL E [] ps = R := ⟨_, rfl⟩
 rw [hR]
 have HR := hid hR
 have HBU : Hid (Bw w [] (w.alloc (.cells #[.pointer none, .slice none 0 0] 100))) := hid ⟨Lib.IsBuilderF.of (Lib.fresh_isBuilder 100 5 w), (Below.refl w.heap.size w).alloc (Nat.le_refl _) _⟩
 clear hR hn hn5 HPart HLen
 go_enter Tryz.func45, Tryz.ntmps45
 go_wp2
 go_loopw [9, 10, 13] (fun s9 s10 i wr => ∃ (j : Nat) (T : L8), j ≤ n ∧ T.length ≤ 8192 ∧ i = .int .i64 (j : Int) ∧ Hid (sayL E T (ps.drop j) = R) ∧ Hid (Bw w T wr)) (fun _ _ i _ => n - (intOf i).toNat)
 case atStart => exact ⟨0, [], Nat.zero_le _, Nat.zero_le _, rfl, hid (by rw [List.drop_zero]; exact HR.out), HBU⟩
 case round =>
  clear HBU
  obtain ⟨j, T, hj, hTs, rfl, HS, HB⟩ := hrel
  by_cases hlt : j < n
  ·have hjl : Hid (j < ps.length) := hid (by have := HN.out; omega)
   obtain ⟨b, o, e0, e1, e2, e3, rfl, hbl, x0, x1, x2, x3, hsub⟩ := PtL.at_ HP.out j hjl.out
   have y0 := (HB.out.2.cell (p := ⟨b, o + j * 4, none⟩) (Nat.lt_of_lt_of_le hbl hB0)).trans x0
   have y1 := (HB.out.2.cell (p := ⟨b, o + j * 4 + 1, none⟩) (Nat.lt_of_lt_of_le hbl hB0)).trans x1
   have y2 := (HB.out.2.cell (p := ⟨b, o + j * 4 + 2, none⟩) (Nat.lt_of_lt_of_le hbl hB0)).trans x2
   have y3 := (HB.out.2.cell (p := ⟨b, o + j * 4 + 3, none⟩) (Nat.lt_of_lt_of_le hbl hB0)).trans x3
   have hst := say_step14 E T ps j hjl.out
   rw [HS.out] at hst
   obtain ⟨p, hpe⟩ : ∃ p, ps[j]'hjl.out = p := ⟨_, rfl⟩
   have hsub9 := hsub
   rw [hpe] at hsub9
   obtain ⟨nm, tx, op, sb⟩ := p
   obtain ⟨rfl, rfl, rfl, hsb⟩ := hsub9.sub
   obtain ⟨B3, c3, rfl, -⟩ := hsb
   obtain ⟨X, hX⟩ : ∃ X, ba nm = X := ⟨_, rfl⟩
   obtain ⟨Y, hY⟩ : ∃ Y, ba tx = Y := ⟨_, rfl⟩
   obtain ⟨m3, hm3⟩ : ∃ m3, sb.length = m3 := ⟨_, rfl⟩
   have hal : Below wr.heap.size wr (wr.alloc (.cells #[.string X, .string Y, .int .i64 op, .slice B3 m3 c3] 73)) := (Below.refl _ _).alloc (Nat.le_refl _) _
   have hB1 := HB.out.go hal
   have HCP := hid (HPV.out j hjl.out _ _ _ _ _ hB1.2 (hsub.keep fun b hb => ⟨hb, hB1.2.block b (Nat.lt_of_lt_of_le hb hB0)⟩))
   rw [hX] at y0 HCP
   rw [hY] at y1 HCP
   rw [hm3] at y3 HCP
   have HB1 := hid hB1
   have hjz : (j : Int) < (n : Int) := by omega
   have hjc : (j : Int) < (cap : Int) := by omega
   clear hsub hpe hal hB1 hX hY hm3 x0 x1 x2 x3
   cases hr : sayP E (ps[j]'hjl.out) with
   | err e k y =>
    rw [hr] at HCP hst
    have HRE : Hid (R = .err e k y) := hid hst
    clear hst hr
    go_wp2_with fail
    refine HCP.out.mono ?_
    rintro x w2 ⟨hb2, k', t', op', A', n', c', s', rfl, hk, hs, ht⟩
    refine ⟨rfl, ?_⟩
    rw [HRE.out]
    exact ⟨HB1.out.2.trans (hb2.mono HB1.out.2.size), k', t', op', A', n', c', s', rfl, hk, hs, ht⟩
   | ok t =>
    rw [hr] at HCP hst
    obtain ⟨U, hU⟩ : ∃ U, ba t = U := ⟨_, rfl⟩
    have hUd : U.data.toList = t := by rw [← hU, ba_data]
    have hUs : U.size ≤ 2000000 := by rw [← hU]; show t.toArray.size ≤ 2000000; rw [List.size_toArray]; exact HLE.out j hjl.out t hr
    have hlt9 : (T ++ t).length = T.length + U.size := by rw [List.length_append, ← hUd]; rfl
    have HUD := hid hUd
    simp only [] at hst
    rw [hlt9] at hst
    have HCQ : Hid (Calls Tryz.prog 60 #[.agg #[.string X, .string Y, .int .i64 op, .slice B3 m3 c3], v, .int .i64 D] (wr.alloc (.cells #[.string X, .string Y, .int .i64 op, .slice B3 m3 c3] 73)) (fun e w' => Below (wr.alloc (.cells #[.string X, .string Y, .int .i64 op, .slice B3 m3 c3] 73)).heap.size (wr.alloc (.cells #[.string X, .string Y, .int .i64 op, .slice B3 m3 c3] 73)) w' ∧ e = .returned (.string U))) := by
     rw [← hU]; exact HCP
    obtain ⟨tl, htl⟩ : ∃ tl, T.length = tl := ⟨_, rfl⟩
    rw [htl] at hst hTs
    have HTL := hid htl
    clear hUd hU hlt9 hr HCP htl
    by_cases hb : 8192 < tl + U.size
    ·have hbi : (8192 : Int) - (tl : Int) < (U.size : Int) := by omega
     have HRE : Hid (R = .err 9 [] []) := hid (by rw [if_pos hb] at hst; exact hst)
     clear hst
     go_wp2_with first
      | (go_at_call 60; refine HCQ.out.mono ?_; rintro x w2 ⟨hb2, rfl⟩; have HB2 := hid (HB1.out.go hb2); clear hb2)
      | (go_at_call 61; refine (Tryz.Builder_Len_f w.heap.size w.heap.size _ w2 HB2.out.1).mono ?_; rintro e w3 ⟨rfl, rfl⟩; rw [Lib.byteCells_length, HTL.out])
     refine ⟨rfl, ?_⟩
     rw [HRE.out]
     exact ⟨HB2.out.2, ⟨#[]⟩, ⟨#[]⟩, 0, none, 0, 0, [], rfl, rfl, ptL_nil _ _, by rw [txtL], by rw [WfL]; trivial, Nat.zero_le _⟩
    ·have hbi : ¬ (8192 : Int) - (tl : Int) < (U.size : Int) := by omega
     have HNX : Hid (sayL E (T ++ U.data.toList) (ps.drop (j + 1)) = R) := hid (by rw [if_neg hb] at hst; rw [HUD.out]; exact hst.symm)
     have HSZ : Hid ((T ++ U.data.toList).length ≤ 8192) := hid (by rw [List.length_append, HTL.out]; show tl + U.data.size ≤ 8192; have : U.data.size = U.size := rfl; omega)
     clear hst
     go_wp2_with first
      | (go_at_call 60; refine HCQ.out.mono ?_; rintro x w2 ⟨hb2, rfl⟩; have HB2 := hid (HB1.out.go hb2); clear hb2)
      | (go_at_call 61; refine (Tryz.Builder_Len_f w.heap.size w.heap.size _ w2 HB2.out.1).mono ?_; rintro e w3 ⟨rfl, rfl⟩; rw [Lib.byteCells_length, HTL.out])
      | (go_at_call 62; refine (Tryz.Builder_WriteString_k w.heap.size w.heap.size (Lib.byteCells T) U _ HB2.out.1 (by rw [Lib.byteCells_length, HTL.out]; omega) HB2.out.2.size).mono ?_; rintro e3 w4 ⟨rfl, hbu3, hb3, ho3⟩; have HB3 : Hid (Bw w (T ++ U.data.toList) w4) := hid ⟨.inr (by rw [← bytes_more14]; exact hbu3), HB2.out.2.trans hb3⟩; clear hbu3 hb3 ho3)
     go_roundw
     case measure => simp [intOf]; omega
     case rel => exact ⟨j + 1, T ++ U.data.toList, by omega, HSZ.out, by go_num, HNX, HB3⟩
  ·obtain rfl : j = n := by omega
   have HE : Hid (R = .ok T) := hid (by
    have := HS.out
    rw [List.drop_of_length_le (by have := HN.out; omega), sayL] at this
    exact this.symm)
   have HST := hid (Tryz.Builder_String_any_k w.heap.size w.heap.size T wr HB.out.1 HB.out.2.size)
   go_wp2_with (go_at_call 63; refine HST.out.mono ?_; rintro e w2 ⟨rfl, -, hb2, -⟩)
   go_ret
   rw [HE.out]
   exact ⟨HB.out.2.trans hb2, rfl⟩
end
end Go.Proofs.YtkcilmmaggmmoaaGreatDoor
