/- TmpLaid, Shelf, TmpRdr -/
import Derived.Below
import Derived.IntWalk
import Derived.LaidLaws
import Derived.LaidMore
import Derived.Laws.IdiomArrays
import Derived.MakeChecks
import Derived.OpenShut
import Derived.ProofKit
import Derived.Shelf.Lay
import Derived.Shelf.Small.Wraps
import Derived.Shelf.Strings.Prefix
import Derived.Shelf.Vars
import Derived.Test.YtkcilmmaggmmoaaDoorPT19
import Derived.Test.YtkcilmmaggmmoaaDoorPT20
import Derived.Test.YtkcilmmaggmmoaaDoorPT5
import Derived.Test.YtkcilmmaggmmoaaDoorProg
import Derived.Test.YtkcilmmaggmmoaaDoorRows
import Derived.WalkKit
set_option linter.unusedVariables false
set_option linter.unusedSimpArgs false
set_option maxRecDepth 100000
set_option maxHeartbeats 16000000
open Go.Lib (hid)
namespace Go.Proofs.YtkcilmmaggmmoaaDoor
namespace Nw
end Nw
namespace T13
end T13
end Go.Proofs.YtkcilmmaggmmoaaDoor
namespace Go.Proofs.YtkcilmmaggmmoaaDoor
section
open Go.RowKit Go.ChangeShapes
open Nw T13
def SomeMax (w : World) : Prop := ∃ m, w.cell? ⟨1, 0, none⟩ = some (.int .i64 m)
theorem SomeMax.keep {w w' : World} (h : SomeMax w) (hb : Below w.heap.size w w') : SomeMax w' := by
 obtain ⟨m, hm⟩ := h
 exact ⟨m, (hb.cell (World.block_lt_of_cell? _ _ hm)).trans hm⟩
theorem someMax_of_shape {w : World} (h : w.ShapedOpen Tryd.prog) : SomeMax w :=
 cell_of_shapedOpen_int (zero := #[.int .i64 0]) (t := 3) h (of_decide_eq_true (by kernel_rfl)) (by kernel_rfl) rfl (by kernel_rfl) (by kernel_rfl) Tryd.underlying3
def Ops8 (w : World) : Prop := ∀ k, k < 8 → w.cell? ⟨0, k, none⟩ = some (.string (ba (markL (k : Int))))
theorem gOps : Tryd.prog.globalNamed "longshore/tmpl.operators" = some 0 := by kernel_rfl
theorem tOps : (Tryd.prog.globals[0]?).map (·.type) = some 102 := by kernel_rfl
theorem cStr : Tryd.prog.cellsOf 9 = 1 := by kernel_rfl
theorem cOps : Tryd.prog.cellsOf 102 = 8 := by kernel_rfl
theorem str_cell {H : Type} {enc : TypeId × Value → H} {w : World} {base : Nat} {sp : Nat → Bool} {held : Bool} {fuel : Nat} {v : Value} {y : DataW H × List MemPlace} {l : List UInt8}
  (h : DataW.trod enc Tryd.prog w base sp held fuel 9 [v] = some y) (hy : y.1 = .lit (.string l)) : v = .string ⟨l.toArray⟩ := by
 obtain ⟨s, hs, rfl, -⟩ := DataW.trod_string Tryd.underlying9 h
 simp only [List.cons.injEq, and_true] at hs
 simp only [DataW.lit.injEq, Lit.string.injEq] at hy
 rw [hs, ← hy]
theorem ops8_of_laid {a b : String × DataW Unit} {W : World}
  (h : laidMet Tryd.prog [a, ("longshore/tmpl.operators", Rows.laid_longshore_tmpl_operators), b] W) : Ops8 W := by
 obtain ⟨ps, ⟨g0, t0, cs0, f0, p0, q0, hg0, ht0, hv0, hd0, ⟨g1, t1, cs1, f1, p1, q1, hg1, ht1, hv1, hd1, _, _⟩, _⟩, _, _⟩ := h
 obtain rfl := Option.some.inj (gOps.symm.trans hg1)
 obtain rfl := Option.some.inj (tOps.symm.trans ht1)
 obtain ⟨xs, m, _, hx, hl, hn, hi⟩ := DataW.trod_array Tryd.underlying102 hd1
 have hx1 := congrArg Prod.fst hx
 simp only [Rows.laid_longshore_tmpl_operators, DataW.agg.injEq] at hx1
 rw [cOps] at hl
 intro k hk
 have hik := hi k hk
 rw [cStr, Nat.mul_one] at hik
 have hkc : k < cs1.toList.length := by omega
 rw [List.drop_eq_getElem_cons hkc] at hik
 have hkx : k < xs.length := by omega
 rw [List.getElem?_eq_getElem hkx] at hik
 have hy : (xs.map (·.1))[k]? = some (.lit (.string (markL (k : Int)))) := by
  rw [← hx1]
  match k, hk with
  | 0, _ => rfl
  | 1, _ => rfl
  | 2, _ => rfl
  | 3, _ => rfl
  | 4, _ => rfl
  | 5, _ => rfl
  | 6, _ => rfl
  | 7, _ => rfl
 rw [List.getElem?_map, List.getElem?_eq_getElem hkx, Option.map_some] at hy
 have he := str_cell hik (Option.some.inj hy)
 rw [World.var?_cell hg1 hv1 k]
 have h2 : cs1[k]? = some (cs1.toList[k]'hkc) := by rw [← Array.getElem?_toList, List.getElem?_eq_getElem hkc]
 rw [h2, he]
 rfl
theorem Ops8.keep {w w' : World} (h : Ops8 w) (hb : Below w.heap.size w w') : Ops8 w' := fun k hk => (hb.cell (World.block_lt_of_cell? _ _ (h k hk))).trans (h k hk)
def Pw13 (w : World) : Prop := Ops8 w ∧ SomeMax w
theorem Pw13.keep {w w' : World} (h : Pw13 w) (hb : Below w.heap.size w w') : Pw13 w' := ⟨h.1.keep hb, h.2.keep hb⟩
end
end Go.Proofs.YtkcilmmaggmmoaaDoor
namespace Go.Proofs
open Go.Shelf
def Tryd.lays103_ren : Go.Shelf.Ren := ⟨fun | 103 => 63 | 210 => 80 | 206 => 62 | n => n, fun | 9 => 9 | 4 => 4 | 24 => 65 | 3 => 3 | n => n, fun | n => n⟩
theorem Tryd.lays103 : Go.Proofs.Lays.n103 Tryd.prog Tryd.lays103_ren := {
 mixed := by kernel_rfl
 f103 := Tryd.func63.trans (congrArg some (by kernel_rfl))
 f206 := Tryd.func62.trans (congrArg some (by kernel_rfl))
 f210 := Tryd.func80.trans (congrArg some (by kernel_rfl))
 t3 := Tryd.underlying3
 a3 := Tryd.isAgg3
 z3 := Tryd.sizeOf3
 v3 := Tryd.zeroValue3
 t4 := Tryd.underlying4
 a4 := Tryd.isAgg4
 z4 := Tryd.sizeOf4
 v4 := Tryd.zeroValue4
 t9 := Tryd.underlying9
 a9 := Tryd.isAgg9
 z9 := Tryd.sizeOf9
 v9 := Tryd.zeroValue9
 t24 := Tryd.underlying65
 a24 := Tryd.isAgg65
 z24 := Tryd.sizeOf65
 v24 := Tryd.zeroValue65 }
open Go.RowKit in
theorem Tryd.strings_CutPrefix (s p : ByteArray) (w : World) :
  Calls Tryd.prog 63 #[.string s, .string p] w fun e w' => e = .returned (.tuple #[.string ⟨(Lib.trimPrefix s.data.toList p.data.toList).toArray⟩, .bool (Lib.hasPrefix s.data.toList p.data.toList)]) ∧ w' = w := Any.strings_CutPrefix Tryd.lays103 s p w
def Tryd.lays99_ren : Go.Shelf.Ren := ⟨fun | 99 => 48 | 206 => 62 | n => n, fun | 9 => 9 | 4 => 4 | 3 => 3 | n => n, fun | n => n⟩
theorem Tryd.lays99 : Go.Proofs.Lays.n99 Tryd.prog Tryd.lays99_ren := {
 mixed := by kernel_rfl
 f99 := Tryd.func48.trans (congrArg some (by kernel_rfl))
 f206 := Tryd.func62.trans (congrArg some (by kernel_rfl))
 t3 := Tryd.underlying3
 a3 := Tryd.isAgg3
 z3 := Tryd.sizeOf3
 v3 := Tryd.zeroValue3
 t4 := Tryd.underlying4
 a4 := Tryd.isAgg4
 z4 := Tryd.sizeOf4
 v4 := Tryd.zeroValue4
 t9 := Tryd.underlying9
 a9 := Tryd.isAgg9
 z9 := Tryd.sizeOf9
 v9 := Tryd.zeroValue9 }
open Go.RowKit Go.Lib in
theorem Tryd.strings_HasPrefix (s p : ByteArray) (w : World) :
  Calls Tryd.prog 48 #[.string s, .string p] w fun e w' => e = .returned (.bool (Lib.hasPrefix s.data.toList p.data.toList)) ∧ w' = w := Any.strings_HasPrefix Tryd.lays99 s p w
end Go.Proofs
namespace Go.Proofs.YtkcilmmaggmmoaaDoor
section
open Go.RowKit Go.Sort
open Nw T13 Go.ChangeShapes Go.WideShapes
theorem bytes_of {s : ByteArray} {l : Array UInt8} (h : s.data.toList = l.toList) : s = ⟨l⟩ := by
 apply bytes_ext
 rw [h]
theorem ret_b13 {a b : Bool} (h : a = b) : Ending.returned (.bool a) = .returned (.bool b) := by rw [h]
theorem ret_sb13 {a b : ByteArray} {c d : Bool} (h : a = b) (g : c = d) : Ending.returned (.tuple #[.string a, .bool c]) = .returned (.tuple #[.string b, .bool d]) := by rw [h, g]
theorem rest13 (s : ByteArray) (k : Nat) : (s.extract k s.size).data.toList = s.data.toList.drop k := by
 rw [Lib.extract_data]
 exact List.take_of_length_le (by rw [List.length_drop]; show s.size - k ≤ s.size - k; exact Nat.le_refl _)
theorem take13 (s : ByteArray) (k : Nat) : (s.extract 0 k).data.toList = s.data.toList.take k := by
 rw [Lib.extract_data]; rfl
theorem len13 (s : ByteArray) : s.data.toList.length = s.size := rfl
def RdB (w : World) (g : Nat) (s : ByteArray) : Prop := w.heap[g]? = some (.cells #[.string s] 51 (0, 0))
section
variable {w w' w1 : World} {g : Nat} {s q : ByteArray}
theorem RdB.lt (h : RdB w g s) : g < w.heap.size := by
 rcases Nat.lt_or_ge g w.heap.size with hl | hl
 ·exact hl
 ·unfold RdB at h; rw [Array.getElem?_eq_none hl] at h; cases h
theorem RdB.cells (h : RdB w g s) : w.cell? ⟨g, 0, none⟩ = some (.string s) ∧ w.frozen? ⟨g, 0, none⟩ = false := by
 unfold RdB at h
 refine ⟨?_, ?_⟩
 ·rw [cell_of_row _ _ 0 _ _ _ h]; rfl
 ·simp [World.frozen?, h]
theorem RdB.set (h : RdB w g s) (q : ByteArray) : RdB (w.setCell ⟨g, 0, none⟩ (.string q)) g q ∧ w.grownBy (w.setCell ⟨g, 0, none⟩ (.string q)) (some g) :=
 ⟨Lib.heap_setCell_same (i := 0) h _, grown_set13 w g 0 _⟩
theorem RdB.below (h : RdB w g s) (hb : Below w.heap.size w w') : RdB w' g s := (hb.block g h.lt).trans h
theorem RdB.other {r : Option Nat} (h : RdB w g s) (hb : w.grownBy w' r) (hr : r ≠ some g) : RdB w' g s := (hb.block g h.lt fun e => hr e.symm).trans h
theorem Ops8.grown (h : Ops8 w) (hR : RdB w g s) (hb : w.grownBy w' (some g)) : Ops8 w' := fun k hk => cell_grown (h k hk) hb fun e => by
 injection e with e
 have h1 := h 1 (by decide)
 have e : g = 0 := e
 unfold RdB at hR
 rw [← e, cell_of_row _ _ 1 _ _ _ hR] at h1
 cases h1
end
theorem hasP13 (s x : ByteArray) (b : Bool) (w : World) (h : pre x.data.toList s.data.toList = b) :
  Calls Tryd.prog 48 #[.string s, .string x] w fun e w' => e = .returned (.bool b) ∧ w = w' := by
 refine (Tryd.strings_HasPrefix s x w).mono ?_
 rintro e w' ⟨rfl, rfl⟩
 exact ⟨ret_b13 h, rfl⟩
theorem cutP13 (s x q : ByteArray) (b : Bool) (w : World) (h : pre x.data.toList s.data.toList = b) (hq : q.data.toList = if b then s.data.toList.drop x.size else s.data.toList) :
  Calls Tryd.prog 63 #[.string s, .string x] w fun e w' => e = .returned (.tuple #[.string q, .bool b]) ∧ w = w' := by
 refine (Tryd.strings_CutPrefix s x w).mono ?_
 rintro e w' ⟨rfl, rfl⟩
 have h1 : Lib.hasPrefix s.data.toList x.data.toList = b := h
 refine ⟨?_, rfl⟩
 refine ret_sb13 (bytes_ext ?_) h1
 rw [hq]
 show (Lib.trimPrefix s.data.toList x.data.toList).toArray.toList = _
 rw [List.toList_toArray]
 unfold Lib.trimPrefix
 rw [h1, len13]
section
variable {w : World} {g : Nat} {s : ByteArray}
theorem isEnd_any (d : Nat) (h : RdB w g s) : Calls Tryd.prog 33 #[.pointer (some ⟨g, 0, none⟩), .int .i64 (d : Int)] w fun e w' => e = .returned (.bool (endB (d + 1) s.data.toList)) ∧ w = w' := by
 obtain ⟨c0, -⟩ := h.cells
 by_cases h0 : s.data.toList = []
 ·have HB : Hid (true = endB (d + 1) s.data.toList) := hid (by rw [h0]; rfl)
  obtain rfl := bytes_of (l := #[]) h0
  clear h h0
  go_enter Tryd.func33, Tryd.ntmps33
  go_wp2
  go_ret
  exact ⟨ret_b13 HB.out, rfl⟩
 ·have b0 : s.toList.isEmpty = false := by rw [ByteArray.toList_eq, List.isEmpty_eq_false_iff]; exact h0
  have b0' : ¬ s.toList = [] := by rw [ByteArray.toList_eq]; exact h0
  have hpre : endB (d + 1) s.data.toList = (decide (0 < d) && pre [125] s.data.toList) := by
   cases hl : s.data.toList with
   | nil => exact absurd hl h0
   | cons c t =>
    unfold endB
    rw [pre_one _ _ (by decide)]
    show (decide (1 < d + 1) && (c == 125)) = (decide (0 < d) && decide (c = 125))
    rw [show decide (1 < d + 1) = decide (0 < d) from by rw [decide_eq_decide]; omega, Bool.eq_iff_iff, Bool.and_eq_true, Bool.and_eq_true, beq_iff_eq, decide_eq_true_iff, decide_eq_true_iff]
  by_cases hd : 0 < d
  ·have hd1 : (0 : Int) < (d : Int) := by omega
   have HB : Hid (pre [125] s.data.toList = endB (d + 1) s.data.toList) := hid (by rw [hpre, decide_eq_true hd, Bool.true_and])
   have HP := hid (fun W => hasP13 s ⟨#[125]⟩ _ W rfl)
   clear h h0 hpre hd
   go_enter Tryd.func33, Tryd.ntmps33
   go_wp2_with (go_at_call 48; refine (HP.out _).mono ?_; rintro e w' ⟨rfl, rfl⟩)
   go_ret
   exact ⟨ret_b13 HB.out, rfl⟩
  ·obtain rfl : d = 0 := by omega
   have HB : Hid (false = endB (0 + 1) s.data.toList) := hid (by rw [hpre]; rfl)
   clear h h0 hpre hd
   go_enter Tryd.func33, Tryd.ntmps33
   go_wp2
   go_ret
   exact ⟨ret_b13 HB.out, rfl⟩
theorem take_any (x q : ByteArray) (b : Bool) (h : RdB w g s) (hb : pre x.data.toList s.data.toList = b) (hq : q.data.toList = if b then s.data.toList.drop x.size else s.data.toList) :
  Calls Tryd.prog 49 #[.pointer (some ⟨g, 0, none⟩), .string x] w fun e w' => e = .returned (.bool b) ∧ RdB w' g q ∧ w.grownBy w' (some g) := by
 obtain ⟨c0, f0⟩ := h.cells
 have HP := hid (fun W => cutP13 s x q b W hb hq)
 have HF := hid (h.set q)
 clear h hb hq
 go_enter Tryd.func49, Tryd.ntmps49
 go_wp2_with (go_at_call 63; refine (HP.out _).mono ?_; rintro e w' ⟨rfl, rfl⟩)
 go_ret
 exact ⟨rfl, HF.out⟩
end
end
end Go.Proofs.YtkcilmmaggmmoaaDoor
