/- ShelfB, QuoSingle -/
import Derived.Shelf.Lay
import Derived.Shelf.Strings.Replace
import Derived.Shelf.Vars
import Derived.Test.YtgdejjkiiaodkaaGreatDoorGT20
import Derived.Test.YtgdejjkiiaodkaaGreatDoorProg
set_option linter.unusedVariables false
set_option linter.unusedSimpArgs false
set_option maxRecDepth 100000
set_option maxHeartbeats 16000000
open Go.Lib (hid)
namespace Go.Proofs
open Go.Shelf
def Tryz.lays155_ren : Go.Shelf.Ren := ⟨fun | 155 => 130 | 154 => 133 | 138 => 70 | 165 => 135 | 143 => 71 | 166 => 23 | 197 => 73 | 169 => 25 | 195 => 86 | 218 => 87 | 240 => 39 | 241 => 136 | 219 => 88 | 260 => 89 | 276 => 67 | 277 => 137 | 217 => 110 | 225 => 111 | 224 => 112 | 267 => 113 | 266 => 125 | 314 => 126 | n => n, fun | 9 => 9 | 3 => 3 | 4 => 4 | 72 => 49 | 0 => 0 | 76 => 52 | 105 => 93 | 21 => 21 | 5 => 5 | 70 => 46 | 20 => 20 | 37 => 47 | 75 => 51 | 127 => 71 | 164 => 88 | 46 => 90 | 119 => 119 | 139 => 122 | 138 => 121 | 146 => 132 | 51 => 115 | 80 => 55 | n => n, fun | 1 => 0 | 3 => 1 | 4 => 2 | n => n⟩
theorem Tryz.lays155 : Go.Proofs.Lays.n155 Tryz.prog Tryz.lays155_ren := {
 mixed := by kernel_rfl
 f138 := Tryz.func70.trans (congrArg some (by kernel_rfl))
 f143 := Tryz.func71.trans (congrArg some (by kernel_rfl))
 f154 := Tryz.func133.trans (congrArg some (by kernel_rfl))
 f155 := Tryz.func130.trans (congrArg some (by kernel_rfl))
 f165 := Tryz.func135.trans (congrArg some (by kernel_rfl))
 f166 := Tryz.func23.trans (congrArg some (by kernel_rfl))
 f169 := Tryz.func25.trans (congrArg some (by kernel_rfl))
 f195 := Tryz.func86.trans (congrArg some (by kernel_rfl))
 f197 := Tryz.func73.trans (congrArg some (by kernel_rfl))
 f217 := Tryz.func110.trans (congrArg some (by kernel_rfl))
 f218 := Tryz.func87.trans (congrArg some (by kernel_rfl))
 f219 := Tryz.func88.trans (congrArg some (by kernel_rfl))
 f224 := Tryz.func112.trans (congrArg some (by kernel_rfl))
 f225 := Tryz.func111.trans (congrArg some (by kernel_rfl))
 f240 := Tryz.func39.trans (congrArg some (by kernel_rfl))
 f241 := Tryz.func136.trans (congrArg some (by kernel_rfl))
 f260 := Tryz.func89.trans (congrArg some (by kernel_rfl))
 f266 := Tryz.func125.trans (congrArg some (by kernel_rfl))
 f267 := Tryz.func113.trans (congrArg some (by kernel_rfl))
 f276 := Tryz.func67.trans (congrArg some (by kernel_rfl))
 f277 := Tryz.func137.trans (congrArg some (by kernel_rfl))
 f314 := Tryz.func126.trans (congrArg some (by kernel_rfl))
 t0 := Tryz.underlying0
 a0 := Tryz.isAgg0
 z0 := Tryz.sizeOf0
 v0 := Tryz.zeroValue0
 t3 := Tryz.underlying3
 a3 := Tryz.isAgg3
 z3 := Tryz.sizeOf3
 v3 := Tryz.zeroValue3
 t4 := Tryz.underlying4
 a4 := Tryz.isAgg4
 z4 := Tryz.sizeOf4
 v4 := Tryz.zeroValue4
 t5 := Tryz.underlying5
 a5 := Tryz.isAgg5
 z5 := Tryz.sizeOf5
 v5 := Tryz.zeroValue5
 t9 := Tryz.underlying9
 a9 := Tryz.isAgg9
 z9 := Tryz.sizeOf9
 v9 := Tryz.zeroValue9
 t20 := Tryz.underlying20
 a20 := Tryz.isAgg20
 z20 := Tryz.sizeOf20
 v20 := Tryz.zeroValue20
 t21 := Tryz.underlying21
 a21 := Tryz.isAgg21
 z21 := Tryz.sizeOf21
 v21 := Tryz.zeroValue21
 t37 := Tryz.underlying47
 a37 := Tryz.isAgg47
 z37 := Tryz.sizeOf47
 v37 := Tryz.zeroValue47
 t46 := Tryz.underlying90
 a46 := Tryz.isAgg90
 z46 := Tryz.sizeOf90
 v46 := Tryz.zeroValue90
 t51 := Tryz.underlying115
 a51 := Tryz.isAgg115
 z51 := Tryz.sizeOf115
 v51 := Tryz.zeroValue115
 t70 := Tryz.underlying46
 a70 := Tryz.isAgg46
 z70 := Tryz.sizeOf46
 v70 := Tryz.zeroValue46
 t72 := Tryz.underlying49
 a72 := Tryz.isAgg49
 z72 := Tryz.sizeOf49
 v72 := Tryz.zeroValue49
 t75 := Tryz.underlying51
 a75 := Tryz.isAgg51
 z75 := Tryz.sizeOf51
 v75 := Tryz.zeroValue51
 t76 := Tryz.underlying52
 a76 := Tryz.isAgg52
 z76 := Tryz.sizeOf52
 v76 := Tryz.zeroValue52
 t105 := Tryz.underlying93
 a105 := Tryz.isAgg93
 z105 := Tryz.sizeOf93
 v105 := Tryz.zeroValue93
 t119 := Tryz.underlying119
 a119 := Tryz.isAgg119
 z119 := Tryz.sizeOf119
 t127 := Tryz.underlying71
 a127 := Tryz.isAgg71
 z127 := Tryz.sizeOf71
 v127 := Tryz.zeroValue71
 t138 := Tryz.underlying121
 a138 := Tryz.isAgg121
 z138 := Tryz.sizeOf121
 v138 := Tryz.zeroValue121
 t139 := Tryz.underlying122
 a139 := Tryz.isAgg122
 z139 := Tryz.sizeOf122
 v139 := Tryz.zeroValue122
 t146 := Tryz.underlying132
 a146 := Tryz.isAgg132
 z146 := Tryz.sizeOf132
 v146 := Tryz.zeroValue132
 t164 := Tryz.underlying88
 a164 := Tryz.isAgg88
 z164 := Tryz.sizeOf88
 v164 := Tryz.zeroValue88
 g1 := by kernel_rfl
 g3 := by kernel_rfl
 g4 := by kernel_rfl }
theorem Tryz.Builder_Extra_155 : Builder.Extra Tryz.prog Tryz.lays155_ren := {
 sizeBuilder := by kernel_rfl
 liesBuilder := by kernel_rfl
 t5 := Tryz.underlying5
 a5 := Tryz.isAgg5
 z5 := Tryz.sizeOf5
 v5 := Tryz.zeroValue5
 infoByte := by kernel_rfl
 cellsByte := by kernel_rfl
 sizeByte := by kernel_rfl
 neB5 := by decide }
open Go.RowKit Go.Lib in
theorem Tryz.strings_ReplaceAll (s old new : ByteArray) (m : Int) (w : World) (hs : s.size < 4294967281) (hm : w.cell? ⟨0, 0, none⟩ = some (.int .i64 m)) (h1 : 1 ≤ old.size) (hlen : s.size + Lib.countB s old * new.size ≤ 140737488355328) :
  Calls Tryz.prog 130 #[.string s, .string old, .string new] w fun e w' =>
   e = .returned (.string ⟨(Lib.replaceAll s.data.toList old.data.toList new.data.toList).toArray⟩) ∧ Below w.heap.size w w' := Any.strings_ReplaceAll Tryz.lays155 Tryz.Builder_Extra_155 s old new m w hs hm h1 hlen
end Go.Proofs
namespace Go.Proofs.YtgdejjkiiaodkaaGreatDoor
section
open Go.RowKit Go.Sort
open Q6
def SomeMax (w : World) : Prop := ∃ m, w.cell? ⟨0, 0, none⟩ = some (.int .i64 m)
theorem SomeMax.keep {w w' : World} (h : SomeMax w) (hb : Below w.heap.size w w') : SomeMax w' := by
 obtain ⟨m, hm⟩ := h
 exact ⟨m, (hb.cell (World.block_lt_of_cell? _ _ hm)).trans hm⟩
theorem someMax_of_shape {w : World} (h : w.ShapedOpen Tryz.prog) : SomeMax w :=
 cell_of_shapedOpen_int (zero := #[.int .i64 0]) (t := 3) h (of_decide_eq_true (by kernel_rfl)) (by kernel_rfl) rfl (by kernel_rfl) (by kernel_rfl) Tryz.underlying3
def sglB (l : List UInt8) : Bool := everyB goodF l
def sglV (l : List UInt8) : List UInt8 := if sglB l then sglL l else []
theorem sqL_len (l : List UInt8) : (sqL l).length ≤ 2 * l.length := by
 induction l with
 | nil => exact Nat.le_refl _
 | cons c l ih =>
  rw [sqL_cons, List.length_append, List.length_cons]
  have : (sq c).length ≤ 2 := by
   unfold sq; split
   ·exact Nat.le_refl _
   ·show 1 ≤ 2; decide
  omega
theorem replace_any (s q : ByteArray) (w : World) (hw : SomeMax w) (hs : s.size ≤ 1000000) (h : sqL s.data.toList = q.data.toList) :
  Calls Tryz.prog 130 #[.string s, .string ⟨#[39]⟩, .string ⟨#[39, 39]⟩] w fun e w' => e = .returned (.string q) ∧ Below w.heap.size w w' := by
 obtain ⟨m, hm⟩ := hw
 have hc := Lib.countB_le ⟨#[39]⟩ (by decide) s.size s (Nat.le_refl _)
 refine (Tryz.strings_ReplaceAll s ⟨#[39]⟩ ⟨#[39, 39]⟩ m w (by omega) hm (by decide) (by show _ + _ * 2 ≤ _; omega)).mono ?_
 rintro e w' ⟨rfl, hb⟩
 exact ⟨by show Ending.returned (.string ⟨(Lib.replaceAll s.data.toList [39] [39, 39]).toArray⟩) = _; rw [replace_sq, h], hb⟩
theorem ret_sb {a b : ByteArray} {c d : Bool} (h : a = b) (g : c = d) : Ending.returned (.tuple #[.string a, .bool c]) = .returned (.tuple #[.string b, .bool d]) := by rw [h, g]
theorem Single_any (s : ByteArray) (w : World) (hw : SomeMax w) (hs : s.size ≤ 200000) (q : ByteArray) (b : Bool) (hq : sglV s.data.toList = q.data.toList) (hb : sglB s.data.toList = b) :
  Calls Tryz.prog 117 #[.string s] w fun e w' => e = .returned (.tuple #[.string q, .bool b]) ∧ Below w.heap.size w w' := by
 have hs' : s.size ≤ maxLen := by unfold maxLen; omega
 have HW := hid hw
 have HP := hid hb
 cases b with
 | false =>
  have HQ : Hid (q.data.toList = []) := hid (by rw [← hq]; unfold sglV; rw [hb]; rfl)
  clear hq hb hw
  go_enter Tryz.func117, Tryz.ntmps117
  go_wp2_with (go_at_call 128; refine (every_q _ _ goodF false _ hs' tells_good HP.out).mono ?_; rintro e w' ⟨rfl, rfl⟩)
  go_ret2
  exact ⟨ret_sb (bytes_ext HQ.out.symm) rfl, Below.refl _ _⟩
 | true =>
  have HQ : Hid (q.data.toList = sglL s.data.toList) := hid (by rw [← hq]; unfold sglV; rw [hb]; rfl)
  obtain ⟨r, hr⟩ : ∃ r : ByteArray, sqL s.data.toList = r.data.toList := ⟨⟨(sqL s.data.toList).toArray⟩, by simp⟩
  have HR := hid hr
  have hrs : r.size ≤ 400000 := by
   have h1 : (sqL s.data.toList).length = r.size := by rw [hr]; rfl
   have h2 := sqL_len s.data.toList
   rw [len_eq] at h2
   omega
  clear hq hb hw hr
  go_enter Tryz.func117, Tryz.ntmps117
  go_wp2_with (first | (go_at_call 128; refine (every_q _ _ goodF true _ hs' tells_good HP.out).mono ?_; rintro e w' ⟨rfl, rfl⟩) | (go_at_call 130; refine (replace_any s r _ HW.out (by omega) HR.out).mono ?_; rintro e w' ⟨rfl, hb⟩))
  go_ret2
  exact ⟨ret_sb (bytes_ext (by rw [data_app, data_app, HQ.out]; unfold sglL; rw [HR.out]; rfl)) rfl, hb⟩
end
end Go.Proofs.YtgdejjkiiaodkaaGreatDoor
