/- TmpOwn, TmpWay, TmpLaid, Shelf, TmpRdr -/
import Derived.Below
import Derived.ChangeAlike
import Derived.Deep.AppendLies
import Derived.Deep.CutRange
import Derived.Deep.LoopGhost
import Derived.Deep.RegionHeld3
import Derived.Deep.RegionLaw
import Derived.IntWalk
import Derived.LaidLaws
import Derived.LaidMore
import Derived.Laws.AppendOwnNone
import Derived.Laws.BytesArg
import Derived.Laws.IdiomArrays
import Derived.Lib.AppendStr
import Derived.Lib.BufferMore
import Derived.Lib.OwnBridge
import Derived.Lib.SliceRun
import Derived.MakeChecks
import Derived.Maps.AppendAt
import Derived.OpenShut
import Derived.OwnWalk
import Derived.ProofKit
import Derived.RegionTactic
import Derived.Shelf.Lay
import Derived.Shelf.Small.Wraps
import Derived.Shelf.Strings.Prefix
import Derived.Shelf.Vars
import Derived.Sort.OwnSorted
import Derived.Test.YtkcilmmaggmmoaaGreatDoorNT11
import Derived.Test.YtkcilmmaggmmoaaGreatDoorNT12
import Derived.Test.YtkcilmmaggmmoaaGreatDoorNT14
import Derived.Test.YtkcilmmaggmmoaaGreatDoorNT2
import Derived.Test.YtkcilmmaggmmoaaGreatDoorNT3
import Derived.Test.YtkcilmmaggmmoaaGreatDoorNT9
import Derived.Test.YtkcilmmaggmmoaaGreatDoorProg
import Derived.Test.YtkcilmmaggmmoaaGreatDoorRows
import Derived.WalkKit
import Derived.WalkSpells
set_option linter.unusedVariables false
set_option linter.unusedSimpArgs false
set_option maxRecDepth 100000
set_option maxHeartbeats 16000000
open Go.Lib (hid)
namespace Go.Proofs.YtkcilmmaggmmoaaGreatDoor
namespace Nw
end Nw
namespace T13
end T13
end Go.Proofs.YtkcilmmaggmmoaaGreatDoor
namespace Go.Proofs.YtkcilmmaggmmoaaGreatDoor
section
open Go.RowKit Go.Sort
open Nw
def encB (c : UInt8) : Value := .int .u8 (c.toNat : Int)
theorem infoB0 : (Tryz.prog.info? 5).map (fun i => (i.zero, i.size, i.bytes)) = some (some (.int .u8 0), 1, 1) := by kernel_rfl
theorem infoB : ∃ i, Tryz.prog.info? 5 = some i ∧ i.zero = some (.int .u8 0) ∧ i.size = 1 ∧ i.bytes = 1 := by
 have h := infoB0
 cases hi : Tryz.prog.info? 5 with
 | none => rw [hi] at h; cases h
 | some i =>
  rw [hi] at h
  simp only [Option.map_some, Option.some.injEq, Prod.mk.injEq] at h
  exact ⟨i, rfl, h.1, h.2.1, h.2.2⟩
theorem nums_of (l : List UInt8) : strOfNums (l.map fun c => (c.toNat : Int)) = ⟨l.toArray⟩ := by
 unfold strOfNums
 congr 2
 rw [List.map_map]
 conv => rhs; rw [← List.map_id l]
 apply List.map_congr_left
 intro c _
 simp
theorem conv_read {w' : World} {b len cap : Nat} {l : List UInt8} (hcell : ∀ i (hi : i < l.length), w'.cell? ⟨b, i, none⟩ = some (encB l[i])) (hlen : l.length = len) :
  (convert 98 9 (.slice (some ⟨b, 0, none⟩) len cap)).run Tryz.prog w' = .ok (.string ⟨l.toArray⟩) w' := by
 have h := run_convert_bytes_arg (P := Tryz.prog) w' 98 5 Tryz.underlying98 Tryz.underlying5 b 0 len cap (l.map fun c => (c.toNat : Int)) (by simpa using hlen) (fun i hi => by
  rw [Nat.zero_add, hcell i (by omega)]
  simp [List.getD, List.getElem?_eq_getElem (show i < l.length by omega), encB]) 9 Tryz.underlying9
 subst hlen
 rw [h, nums_of]
theorem own_conv {wr : World} {base n : Nat} {v : Value} {l : List UInt8} (h : wr.ownsRow base 5 1 v n (l.map encB)) (hv : v ≠ .slice none 0 0) :
  ∃ g cap, v = .slice (some ⟨g, 0, none⟩) n cap ∧ (convert 98 9 (.slice (some ⟨g, 0, none⟩) n cap)).run Tryz.prog wr = .ok (.string ⟨l.toArray⟩) wr := by
 obtain ⟨g, cap, rfl, _, hg, h1, h2, hl, hH⟩ := Lib.holds_of_ownsRow h hv
 refine ⟨g, cap, rfl, conv_read (fun i hi => ?_) hl⟩
 have := (hH i (by simpa using hi)).1
 rw [getElem!_pos l.toArray i (by simpa using hi), Nat.zero_add] at this
 simpa using this
theorem conv_nil (w : World) : (convert 98 9 (.slice none 0 0)).run Tryz.prog w = .ok (.string ⟨#[]⟩) w :=
 run_convert_bytes_nil (P := Tryz.prog) w 98 5 Tryz.underlying98 Tryz.underlying5 0 0 9 Tryz.underlying9
theorem own_none {wr : World} {base n : Nat} {l : List UInt8} (h : wr.ownsRow base 5 1 (.slice none 0 0) n (l.map encB)) : n = 0 ∧ l = [] := by
 rcases h.2 with ⟨_, h0⟩ | ⟨g, cap, cur, h0, _⟩
 ·refine ⟨h0, ?_⟩
  have hl : (l.map encB).length = n * 1 := h.1
  rw [List.length_map] at hl
  exact List.length_eq_zero_iff.1 (by omega)
 ·cases h0
theorem own_cases {wr : World} {base n : Nat} {v : Value} {l : List UInt8} (h : wr.ownsRow base 5 1 v n (l.map encB)) :
  (v = .slice none 0 0 ∧ l = []) ∨ ∃ g cap, v = .slice (some ⟨g, 0, none⟩) n cap ∧ (convert 98 9 (.slice (some ⟨g, 0, none⟩) n cap)).run Tryz.prog wr = .ok (.string ⟨l.toArray⟩) wr := by
 by_cases hv : v = .slice none 0 0
 ·subst hv; exact .inl ⟨rfl, (own_none h).2⟩
 ·exact .inr (own_conv h hv)
theorem row_new (w : World) (o : Obj) : (w.alloc o).heap[w.heap.size]? = some o := by
 show (w.heap.push o)[w.heap.size]? = some o
 simp
theorem cells_new (w : World) (c : Array Value) (t : TypeId) : ∀ j u, c.toList[j]? = some u → (w.alloc (.cells c t)).cell? ((⟨w.heap.size, 0, none⟩ : Addr).add j) = some u := by
 intro j u h
 have hadd : (⟨w.heap.size, 0, none⟩ : Addr).add j = ⟨w.heap.size, j, none⟩ := by unfold Addr.add; split <;> simp_all
 rw [hadd, cell_of_row _ _ j c t (0, 0) (row_new w _)]
 simpa using h
theorem one_one (a : Int) : ∀ u ∈ [Value.int .u8 a], u.oneCell' = true := by
 intro u hu
 simp at hu
 subst hu; rfl
theorem owns_nil (w : World) (base : Nat) (e : TypeId) : w.ownsRow base e 1 (.slice none 0 0) 0 [] := ⟨rfl, .inl ⟨rfl, rfl⟩⟩
theorem bytes_ext {a b : ByteArray} (h : a.data.toList = b.data.toList) : a = b := by
 cases a; cases b; simp at h; simp [h]
theorem map_snoc (l : List UInt8) (c : UInt8) : (l ++ [c]).map encB = l.map encB ++ [.int .u8 (c.toNat : Int)] := by simp [encB]
end
section
open Go.RowKit Go.Sort
open Nw Go.ChangeShapes Go.WideShapes
section
end
theorem gro_trans {a b c : World} {r r1 : Option Nat} (h : a.grownBy b r) (k : b.grownBy c r1) (hr : ∀ g, r1 = some g → r = some g ∨ a.heap.size ≤ g) : a.grownBy c r :=
 ⟨k.os.trans h.os, k.tape.trans h.tape, k.output.trans h.output, Nat.le_trans h.size k.size, fun i hi hne => (k.block i (Nat.lt_of_lt_of_le hi h.size) (fun e => (hr i e.symm).elim (fun e2 => hne e2.symm) (fun e2 => by omega))).trans (h.block i hi hne)⟩
theorem gro_below {a b c : World} {r : Option Nat} (h : a.grownBy b r) (k : Below b.heap.size b c) : a.grownBy c r :=
 ⟨k.os.trans h.os, k.tape.trans h.tape, k.output.trans h.output, Nat.le_trans h.size k.size, fun i hi hne => (k.block i (Nat.lt_of_lt_of_le hi h.size)).trans (h.block i hi hne)⟩
section
end
@[reducible] def Cells4 (g : Nat) (a b c d : Value) (w : World) : Prop :=
 g < w.heap.size ∧ w.cell? ⟨g, 0, none⟩ = some a ∧ w.cell? ⟨g, 1, none⟩ = some b ∧ w.cell? ⟨g, 2, none⟩ = some c ∧ w.cell? ⟨g, 3, none⟩ = some d
theorem keep4_alloc {g : Nat} {a b c d : Value} {w : World} {o : Obj} (h : Cells4 g a b c d w) : Cells4 g a b c d (w.alloc o) :=
 ⟨by simp; have := h.1; omega, cells_alloc h.2.1, cells_alloc h.2.2.1, cells_alloc h.2.2.2.1, cells_alloc h.2.2.2.2⟩
theorem keep4_grown {g : Nat} {a b c d : Value} {w w' : World} {row : Option Nat} (hg : w.grownBy w' row) (hn : row ≠ some g) (h : Cells4 g a b c d w) : Cells4 g a b c d w' :=
 ⟨Nat.lt_of_lt_of_le h.1 hg.size, cell_grown h.2.1 hg hn, cell_grown h.2.2.1 hg hn, cell_grown h.2.2.2.1 hg hn, cell_grown h.2.2.2.2 hg hn⟩
theorem grown_set13 (w : World) (g : Nat) (i : Nat) (v : Value) : w.grownBy (w.setCell ⟨g, i, none⟩ v) (some g) := ⟨rfl, rfl, rfl, by simp [World.setCell], fun k _ hne => Below.heap_setCell _ _ _ k fun e => hne (by rw [show k = g from e])⟩
end
section
open Go.RowKit Go.ChangeShapes
open Nw T13
def Ops8 (w : World) : Prop := ∀ k, k < 8 → w.cell? ⟨0, k, none⟩ = some (.string (ba (markL (k : Int))))
theorem gOps : Tryz.prog.globalNamed "longshore/tmpl.operators" = some 0 := by kernel_rfl
theorem tOps : (Tryz.prog.globals[0]?).map (·.type) = some 138 := by kernel_rfl
theorem cStr : Tryz.prog.cellsOf 9 = 1 := by kernel_rfl
theorem cOps : Tryz.prog.cellsOf 138 = 8 := by kernel_rfl
theorem str_cell {H : Type} {enc : TypeId × Value → H} {w : World} {base : Nat} {sp : Nat → Bool} {held : Bool} {fuel : Nat} {v : Value} {y : DataW H × List MemPlace} {l : List UInt8}
  (h : DataW.trod enc Tryz.prog w base sp held fuel 9 [v] = some y) (hy : y.1 = .lit (.string l)) : v = .string ⟨l.toArray⟩ := by
 obtain ⟨s, hs, rfl, -⟩ := DataW.trod_string Tryz.underlying9 h
 simp only [List.cons.injEq, and_true] at hs
 simp only [DataW.lit.injEq, Lit.string.injEq] at hy
 rw [hs, ← hy]
theorem Ops8.keep {w w' : World} (h : Ops8 w) (hb : Below w.heap.size w w') : Ops8 w' := fun k hk => (hb.cell (World.block_lt_of_cell? _ _ (h k hk))).trans (h k hk)
end
end Go.Proofs.YtkcilmmaggmmoaaGreatDoor
namespace Go.Proofs
open Go.Shelf
def Tryz.lays103_ren : Go.Shelf.Ren := ⟨fun | 103 => 83 | 210 => 106 | 206 => 82 | n => n, fun | 9 => 9 | 4 => 4 | 24 => 61 | 3 => 3 | n => n, fun | n => n⟩
theorem Tryz.lays103 : Go.Proofs.Lays.n103 Tryz.prog Tryz.lays103_ren := {
 mixed := by kernel_rfl
 f103 := Tryz.func83.trans (congrArg some (by kernel_rfl))
 f206 := Tryz.func82.trans (congrArg some (by kernel_rfl))
 f210 := Tryz.func106.trans (congrArg some (by kernel_rfl))
 t3 := Tryz.underlying3
 a3 := Tryz.isAgg3
 z3 := Tryz.sizeOf3
 v3 := Tryz.zeroValue3
 t4 := Tryz.underlying4
 a4 := Tryz.isAgg4
 z4 := Tryz.sizeOf4
 v4 := Tryz.zeroValue4
 t9 := Tryz.underlying9
 a9 := Tryz.isAgg9
 z9 := Tryz.sizeOf9
 v9 := Tryz.zeroValue9
 t24 := Tryz.underlying61
 a24 := Tryz.isAgg61
 z24 := Tryz.sizeOf61
 v24 := Tryz.zeroValue61 }
open Go.RowKit in
theorem Tryz.strings_CutPrefix (s p : ByteArray) (w : World) :
  Calls Tryz.prog 83 #[.string s, .string p] w fun e w' => e = .returned (.tuple #[.string ⟨(Lib.trimPrefix s.data.toList p.data.toList).toArray⟩, .bool (Lib.hasPrefix s.data.toList p.data.toList)]) ∧ w' = w := Any.strings_CutPrefix Tryz.lays103 s p w
def Tryz.lays99_ren : Go.Shelf.Ren := ⟨fun | 99 => 67 | 206 => 82 | n => n, fun | 9 => 9 | 4 => 4 | 3 => 3 | n => n, fun | n => n⟩
theorem Tryz.lays99 : Go.Proofs.Lays.n99 Tryz.prog Tryz.lays99_ren := {
 mixed := by kernel_rfl
 f99 := Tryz.func67.trans (congrArg some (by kernel_rfl))
 f206 := Tryz.func82.trans (congrArg some (by kernel_rfl))
 t3 := Tryz.underlying3
 a3 := Tryz.isAgg3
 z3 := Tryz.sizeOf3
 v3 := Tryz.zeroValue3
 t4 := Tryz.underlying4
 a4 := Tryz.isAgg4
 z4 := Tryz.sizeOf4
 v4 := Tryz.zeroValue4
 t9 := Tryz.underlying9
 a9 := Tryz.isAgg9
 z9 := Tryz.sizeOf9
 v9 := Tryz.zeroValue9 }
open Go.RowKit Go.Lib in
theorem Tryz.strings_HasPrefix (s p : ByteArray) (w : World) :
  Calls Tryz.prog 67 #[.string s, .string p] w fun e w' => e = .returned (.bool (Lib.hasPrefix s.data.toList p.data.toList)) ∧ w' = w := Any.strings_HasPrefix Tryz.lays99 s p w
end Go.Proofs
namespace Go.Proofs.YtkcilmmaggmmoaaGreatDoor
section
open Go.RowKit Go.Sort
open Nw T13 Go.ChangeShapes Go.WideShapes
theorem bytes_of {s : ByteArray} {l : Array UInt8} (h : s.data.toList = l.toList) : s = ⟨l⟩ := by
 apply bytes_ext
 rw [h]
theorem ret_b13 {a b : Bool} (h : a = b) : Ending.returned (.bool a) = .returned (.bool b) := by rw [h]
theorem ret_sb13 {a b : ByteArray} {c d : Bool} (h : a = b) (g : c = d) : Ending.returned (.tuple #[.string a, .bool c]) = .returned (.tuple #[.string b, .bool d]) := by rw [h, g]
theorem rest13 (s : ByteArray) (k : Nat) : (s.extract k s.size).data.toList = s.data.toList.drop k := by
 rw [Lib.extract_data]
 exact List.take_of_length_le (by rw [List.length_drop]; show s.size - k ≤ s.size - k; exact Nat.le_refl _)
theorem take13 (s : ByteArray) (k : Nat) : (s.extract 0 k).data.toList = s.data.toList.take k := by
 rw [Lib.extract_data]; rfl
theorem len13 (s : ByteArray) : s.data.toList.length = s.size := rfl
def RdB (w : World) (g : Nat) (s : ByteArray) : Prop := w.heap[g]? = some (.cells #[.string s] 65 (0, 0))
section
variable {w w' w1 : World} {g : Nat} {s q : ByteArray}
theorem RdB.lt (h : RdB w g s) : g < w.heap.size := by
 rcases Nat.lt_or_ge g w.heap.size with hl | hl
 ·exact hl
 ·unfold RdB at h; rw [Array.getElem?_eq_none hl] at h; cases h
theorem RdB.cells (h : RdB w g s) : w.cell? ⟨g, 0, none⟩ = some (.string s) ∧ w.frozen? ⟨g, 0, none⟩ = false := by
 unfold RdB at h
 refine ⟨?_, ?_⟩
 ·rw [cell_of_row _ _ 0 _ _ _ h]; rfl
 ·simp [World.frozen?, h]
theorem RdB.set (h : RdB w g s) (q : ByteArray) : RdB (w.setCell ⟨g, 0, none⟩ (.string q)) g q ∧ w.grownBy (w.setCell ⟨g, 0, none⟩ (.string q)) (some g) :=
 ⟨Lib.heap_setCell_same (i := 0) h _, grown_set13 w g 0 _⟩
theorem RdB.below (h : RdB w g s) (hb : Below w.heap.size w w') : RdB w' g s := (hb.block g h.lt).trans h
theorem RdB.other {r : Option Nat} (h : RdB w g s) (hb : w.grownBy w' r) (hr : r ≠ some g) : RdB w' g s := (hb.block g h.lt fun e => hr e.symm).trans h
theorem Ops8.grown (h : Ops8 w) (hR : RdB w g s) (hb : w.grownBy w' (some g)) : Ops8 w' := fun k hk => cell_grown (h k hk) hb fun e => by
 injection e with e
 have h1 := h 1 (by decide)
 have e : g = 0 := e
 unfold RdB at hR
 rw [← e, cell_of_row _ _ 1 _ _ _ hR] at h1
 cases h1
end
theorem hasP13 (s x : ByteArray) (b : Bool) (w : World) (h : pre x.data.toList s.data.toList = b) :
  Calls Tryz.prog 67 #[.string s, .string x] w fun e w' => e = .returned (.bool b) ∧ w = w' := by
 refine (Tryz.strings_HasPrefix s x w).mono ?_
 rintro e w' ⟨rfl, rfl⟩
 exact ⟨ret_b13 h, rfl⟩
theorem cutP13 (s x q : ByteArray) (b : Bool) (w : World) (h : pre x.data.toList s.data.toList = b) (hq : q.data.toList = if b then s.data.toList.drop x.size else s.data.toList) :
  Calls Tryz.prog 83 #[.string s, .string x] w fun e w' => e = .returned (.tuple #[.string q, .bool b]) ∧ w = w' := by
 refine (Tryz.strings_CutPrefix s x w).mono ?_
 rintro e w' ⟨rfl, rfl⟩
 have h1 : Lib.hasPrefix s.data.toList x.data.toList = b := h
 refine ⟨?_, rfl⟩
 refine ret_sb13 (bytes_ext ?_) h1
 rw [hq]
 show (Lib.trimPrefix s.data.toList x.data.toList).toArray.toList = _
 rw [List.toList_toArray]
 unfold Lib.trimPrefix
 rw [h1, len13]
section
variable {w : World} {g : Nat} {s : ByteArray}
theorem isEnd_any (d : Nat) (h : RdB w g s) : Calls Tryz.prog 52 #[.pointer (some ⟨g, 0, none⟩), .int .i64 (d : Int)] w fun e w' => e = .returned (.bool (endB (d + 1) s.data.toList)) ∧ w = w' := by
 obtain ⟨c0, -⟩ := h.cells
 by_cases h0 : s.data.toList = []
 ·have HB : Hid (true = endB (d + 1) s.data.toList) := hid (by rw [h0]; rfl)
  obtain rfl := bytes_of (l := #[]) h0
  clear h h0
  go_enter Tryz.func52, Tryz.ntmps52
  go_wp2
  go_ret
  exact ⟨ret_b13 HB.out, rfl⟩
 ·have b0 : s.toList.isEmpty = false := by rw [ByteArray.toList_eq, List.isEmpty_eq_false_iff]; exact h0
  have b0' : ¬ s.toList = [] := by rw [ByteArray.toList_eq]; exact h0
  have hpre : endB (d + 1) s.data.toList = (decide (0 < d) && pre [125] s.data.toList) := by
   cases hl : s.data.toList with
   | nil => exact absurd hl h0
   | cons c t =>
    unfold endB
    rw [pre_one _ _ (by decide)]
    show (decide (1 < d + 1) && (c == 125)) = (decide (0 < d) && decide (c = 125))
    rw [show decide (1 < d + 1) = decide (0 < d) from by rw [decide_eq_decide]; omega, Bool.eq_iff_iff, Bool.and_eq_true, Bool.and_eq_true, beq_iff_eq, decide_eq_true_iff, decide_eq_true_iff]
  by_cases hd : 0 < d
  ·have hd1 : (0 : Int) < (d : Int) := by omega
   have HB : Hid (pre [125] s.data.toList = endB (d + 1) s.data.toList) := hid (by rw [hpre, decide_eq_true hd, Bool.true_and])
   have HP := hid (fun W => hasP13 s ⟨#[125]⟩ _ W rfl)
   clear h h0 hpre hd
   go_enter Tryz.func52, Tryz.ntmps52
   go_wp2_with (go_at_call 67; refine (HP.out _).mono ?_; rintro e w' ⟨rfl, rfl⟩)
   go_ret
   exact ⟨ret_b13 HB.out, rfl⟩
  ·obtain rfl : d = 0 := by omega
   have HB : Hid (false = endB (0 + 1) s.data.toList) := hid (by rw [hpre]; rfl)
   clear h h0 hpre hd
   go_enter Tryz.func52, Tryz.ntmps52
   go_wp2
   go_ret
   exact ⟨ret_b13 HB.out, rfl⟩
theorem take_any (x q : ByteArray) (b : Bool) (h : RdB w g s) (hb : pre x.data.toList s.data.toList = b) (hq : q.data.toList = if b then s.data.toList.drop x.size else s.data.toList) :
  Calls Tryz.prog 68 #[.pointer (some ⟨g, 0, none⟩), .string x] w fun e w' => e = .returned (.bool b) ∧ RdB w' g q ∧ w.grownBy w' (some g) := by
 obtain ⟨c0, f0⟩ := h.cells
 have HP := hid (fun W => cutP13 s x q b W hb hq)
 have HF := hid (h.set q)
 clear h hb hq
 go_enter Tryz.func68, Tryz.ntmps68
 go_wp2_with (go_at_call 83; refine (HP.out _).mono ?_; rintro e w' ⟨rfl, rfl⟩)
 go_ret
 exact ⟨rfl, HF.out⟩
end
end
end Go.Proofs.YtkcilmmaggmmoaaGreatDoor
