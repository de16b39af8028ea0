/- Shelf, ShelfE, EmiAny, QuoByte, QuoEvery, RefNod1, NodMeas -/
import Derived.Below
import Derived.BigQuiet
import Derived.Deep.LoopGhost
import Derived.Deep.QuietTactic
import Derived.IntWalk
import Derived.Laws.Cover4
import Derived.Laws.RangeAny
import Derived.Laws.Runes
import Derived.Lib.Hide
import Derived.LoopN
import Derived.ProofKit
import Derived.Shelf.Lay
import Derived.Shelf.Small.Strs
import Derived.Shelf.Strings.IndexAnyAll
import Derived.Shelf.Strings.Prefix
import Derived.Shelf.Strings.Trim
import Derived.Test.YtmdgpejedbkkdaaGreatDoorBT1
import Derived.Test.YtmdgpejedbkkdaaGreatDoorBT3
import Derived.Test.YtmdgpejedbkkdaaGreatDoorBT8
import Derived.Test.YtmdgpejedbkkdaaGreatDoorProg
import Derived.Test.YtmdgpejedbkkdaaGreatDoorRows
import Derived.WalkKit
set_option linter.unusedVariables false
set_option linter.unusedSimpArgs false
set_option maxRecDepth 100000
set_option maxHeartbeats 16000000
open Go.Lib (hid)
namespace Go.Proofs
open Go.Shelf
def Tryz.lays161_ren : Go.Shelf.Ren := ⟨fun | 161 => 67 | 231 => 92 | 227 => 64 | 233 => 93 | 235 => 94 | 228 => 65 | 197 => 118 | 151 => 121 | 260 => 135 | 152 => 62 | 137 => 61 | 119 => 86 | 224 => 87 | 225 => 88 | 217 => 85 | 266 => 116 | n => n, fun | 9 => 9 | 4 => 4 | 3 => 3 | 5 => 5 | 117 => 89 | 116 => 88 | 0 => 0 | 124 => 106 | 105 => 121 | 21 => 21 | 119 => 136 | 46 => 91 | 139 => 139 | 138 => 138 | n => n, fun | 3 => 1 | 4 => 2 | n => n⟩
theorem Tryz.lays161 : Go.Proofs.Lays.n161 Tryz.prog Tryz.lays161_ren := {
 mixed := by kernel_rfl
 f119 := Tryz.func86.trans (congrArg some (by kernel_rfl))
 f137 := Tryz.func61.trans (congrArg some (by kernel_rfl))
 f151 := Tryz.func121.trans (congrArg some (by kernel_rfl))
 f152 := Tryz.func62.trans (congrArg some (by kernel_rfl))
 f161 := Tryz.func67.trans (congrArg some (by kernel_rfl))
 f197 := Tryz.func118.trans (congrArg some (by kernel_rfl))
 f217 := Tryz.func85.trans (congrArg some (by kernel_rfl))
 f224 := Tryz.func87.trans (congrArg some (by kernel_rfl))
 f225 := Tryz.func88.trans (congrArg some (by kernel_rfl))
 f227 := Tryz.func64.trans (congrArg some (by kernel_rfl))
 f228 := Tryz.func65.trans (congrArg some (by kernel_rfl))
 f231 := Tryz.func92.trans (congrArg some (by kernel_rfl))
 f233 := Tryz.func93.trans (congrArg some (by kernel_rfl))
 f235 := Tryz.func94.trans (congrArg some (by kernel_rfl))
 f260 := Tryz.func135.trans (congrArg some (by kernel_rfl))
 f266 := Tryz.func116.trans (congrArg some (by kernel_rfl))
 t0 := Tryz.underlying0
 a0 := Tryz.isAgg0
 z0 := Tryz.sizeOf0
 v0 := Tryz.zeroValue0
 t3 := Tryz.underlying3
 a3 := Tryz.isAgg3
 z3 := Tryz.sizeOf3
 v3 := Tryz.zeroValue3
 t4 := Tryz.underlying4
 a4 := Tryz.isAgg4
 z4 := Tryz.sizeOf4
 v4 := Tryz.zeroValue4
 t5 := Tryz.underlying5
 a5 := Tryz.isAgg5
 z5 := Tryz.sizeOf5
 v5 := Tryz.zeroValue5
 t9 := Tryz.underlying9
 a9 := Tryz.isAgg9
 z9 := Tryz.sizeOf9
 v9 := Tryz.zeroValue9
 t21 := Tryz.underlying21
 a21 := Tryz.isAgg21
 z21 := Tryz.sizeOf21
 v21 := Tryz.zeroValue21
 t46 := Tryz.underlying91
 a46 := Tryz.isAgg91
 z46 := Tryz.sizeOf91
 v46 := Tryz.zeroValue91
 t105 := Tryz.underlying121
 a105 := Tryz.isAgg121
 z105 := Tryz.sizeOf121
 v105 := Tryz.zeroValue121
 t116 := Tryz.underlying88
 a116 := Tryz.isAgg88
 z116 := Tryz.sizeOf88
 t117 := Tryz.underlying89
 a117 := Tryz.isAgg89
 z117 := Tryz.sizeOf89
 v117 := Tryz.zeroValue89
 t119 := Tryz.underlying136
 a119 := Tryz.isAgg136
 z119 := Tryz.sizeOf136
 t124 := Tryz.underlying106
 a124 := Tryz.isAgg106
 z124 := Tryz.sizeOf106
 v124 := Tryz.zeroValue106
 t138 := Tryz.underlying138
 a138 := Tryz.isAgg138
 z138 := Tryz.sizeOf138
 v138 := Tryz.zeroValue138
 t139 := Tryz.underlying139
 a139 := Tryz.isAgg139
 z139 := Tryz.sizeOf139
 v139 := Tryz.zeroValue139
 g3 := by kernel_rfl
 g4 := by kernel_rfl }
open Go.RowKit in
theorem Tryz.strings_TrimLeft_one (s : ByteArray) (c : UInt8) (hc : c.toNat < 128) (w : World) :
  Calls Tryz.prog 67 #[.string s, .string ⟨#[c]⟩] w fun e w' => e = .returned (.string ⟨(Lib.trimLeftB s.data.toList c).toArray⟩) ∧ w' = w := Any.strings_TrimLeft_one Tryz.lays161 s c hc w
def Tryz.lays162_ren : Go.Shelf.Ren := ⟨fun | 162 => 69 | 232 => 97 | 227 => 64 | 234 => 98 | 236 => 99 | 228 => 65 | 271 => 124 | 151 => 121 | 120 => 138 | 197 => 118 | 152 => 62 | 260 => 135 | 137 => 61 | 119 => 86 | 224 => 87 | 225 => 88 | 217 => 85 | 266 => 116 | n => n, fun | 9 => 9 | 4 => 4 | 3 => 3 | 5 => 5 | 117 => 89 | 116 => 88 | 0 => 0 | 124 => 106 | 21 => 21 | 105 => 121 | 46 => 91 | 119 => 136 | 139 => 139 | 138 => 138 | n => n, fun | 3 => 1 | 4 => 2 | n => n⟩
theorem Tryz.lays162 : Go.Proofs.Lays.n162 Tryz.prog Tryz.lays162_ren := {
 mixed := by kernel_rfl
 f119 := Tryz.func86.trans (congrArg some (by kernel_rfl))
 f120 := Tryz.func138.trans (congrArg some (by kernel_rfl))
 f137 := Tryz.func61.trans (congrArg some (by kernel_rfl))
 f151 := Tryz.func121.trans (congrArg some (by kernel_rfl))
 f152 := Tryz.func62.trans (congrArg some (by kernel_rfl))
 f162 := Tryz.func69.trans (congrArg some (by kernel_rfl))
 f197 := Tryz.func118.trans (congrArg some (by kernel_rfl))
 f217 := Tryz.func85.trans (congrArg some (by kernel_rfl))
 f224 := Tryz.func87.trans (congrArg some (by kernel_rfl))
 f225 := Tryz.func88.trans (congrArg some (by kernel_rfl))
 f227 := Tryz.func64.trans (congrArg some (by kernel_rfl))
 f228 := Tryz.func65.trans (congrArg some (by kernel_rfl))
 f232 := Tryz.func97.trans (congrArg some (by kernel_rfl))
 f234 := Tryz.func98.trans (congrArg some (by kernel_rfl))
 f236 := Tryz.func99.trans (congrArg some (by kernel_rfl))
 f260 := Tryz.func135.trans (congrArg some (by kernel_rfl))
 f266 := Tryz.func116.trans (congrArg some (by kernel_rfl))
 f271 := Tryz.func124.trans (congrArg some (by kernel_rfl))
 t0 := Tryz.underlying0
 a0 := Tryz.isAgg0
 z0 := Tryz.sizeOf0
 v0 := Tryz.zeroValue0
 t3 := Tryz.underlying3
 a3 := Tryz.isAgg3
 z3 := Tryz.sizeOf3
 v3 := Tryz.zeroValue3
 t4 := Tryz.underlying4
 a4 := Tryz.isAgg4
 z4 := Tryz.sizeOf4
 v4 := Tryz.zeroValue4
 t5 := Tryz.underlying5
 a5 := Tryz.isAgg5
 z5 := Tryz.sizeOf5
 v5 := Tryz.zeroValue5
 t9 := Tryz.underlying9
 a9 := Tryz.isAgg9
 z9 := Tryz.sizeOf9
 v9 := Tryz.zeroValue9
 t21 := Tryz.underlying21
 a21 := Tryz.isAgg21
 z21 := Tryz.sizeOf21
 v21 := Tryz.zeroValue21
 t46 := Tryz.underlying91
 a46 := Tryz.isAgg91
 z46 := Tryz.sizeOf91
 v46 := Tryz.zeroValue91
 t105 := Tryz.underlying121
 a105 := Tryz.isAgg121
 z105 := Tryz.sizeOf121
 v105 := Tryz.zeroValue121
 t116 := Tryz.underlying88
 a116 := Tryz.isAgg88
 z116 := Tryz.sizeOf88
 t117 := Tryz.underlying89
 a117 := Tryz.isAgg89
 z117 := Tryz.sizeOf89
 v117 := Tryz.zeroValue89
 t119 := Tryz.underlying136
 a119 := Tryz.isAgg136
 z119 := Tryz.sizeOf136
 t124 := Tryz.underlying106
 a124 := Tryz.isAgg106
 z124 := Tryz.sizeOf106
 v124 := Tryz.zeroValue106
 t138 := Tryz.underlying138
 a138 := Tryz.isAgg138
 z138 := Tryz.sizeOf138
 v138 := Tryz.zeroValue138
 t139 := Tryz.underlying139
 a139 := Tryz.isAgg139
 z139 := Tryz.sizeOf139
 v139 := Tryz.zeroValue139
 g3 := by kernel_rfl
 g4 := by kernel_rfl }
open Go.RowKit in
theorem Tryz.strings_TrimRight_one (s : ByteArray) (c : UInt8) (hc : c.toNat < 128) (w : World) (hs : s.size ≤ 9223372036854775807) :
  Calls Tryz.prog 69 #[.string s, .string ⟨#[c]⟩] w fun e w' => e = .returned (.string ⟨(Lib.trimRightB s.data.toList c).toArray⟩) ∧ w' = w := Any.strings_TrimRight_one Tryz.lays162 s c hc w hs
def Tryz.lays137_ren : Go.Shelf.Ren := ⟨fun | 137 => 61 | 217 => 85 | 266 => 116 | n => n, fun | 9 => 9 | 5 => 5 | 3 => 3 | n => n, fun | n => n⟩
theorem Tryz.lays137 : Go.Proofs.Lays.n137 Tryz.prog Tryz.lays137_ren := {
 mixed := by kernel_rfl
 f137 := Tryz.func61.trans (congrArg some (by kernel_rfl))
 f217 := Tryz.func85.trans (congrArg some (by kernel_rfl))
 f266 := Tryz.func116.trans (congrArg some (by kernel_rfl))
 t3 := Tryz.underlying3
 a3 := Tryz.isAgg3
 z3 := Tryz.sizeOf3
 v3 := Tryz.zeroValue3
 t5 := Tryz.underlying5
 a5 := Tryz.isAgg5
 z5 := Tryz.sizeOf5
 v5 := Tryz.zeroValue5
 t9 := Tryz.underlying9
 a9 := Tryz.isAgg9
 z9 := Tryz.sizeOf9
 v9 := Tryz.zeroValue9 }
open Go.RowKit in
theorem Tryz.strings_IndexByte (s : ByteArray) (c : Int) (w : World) :
  Calls Tryz.prog 61 #[.string s, .int .u8 c] w fun e w' => e = .returned (.int .i64 (Lib.indexByte s.data.toList c.toNat.toUInt8)) ∧ w' = w := Any.strings_IndexByte Tryz.lays137 s c w
def Tryz.lays99_ren : Go.Shelf.Ren := ⟨fun | 99 => 101 | 206 => 127 | n => n, fun | 9 => 9 | 4 => 4 | 3 => 3 | n => n, fun | n => n⟩
theorem Tryz.lays99 : Go.Proofs.Lays.n99 Tryz.prog Tryz.lays99_ren := {
 mixed := by kernel_rfl
 f99 := Tryz.func101.trans (congrArg some (by kernel_rfl))
 f206 := Tryz.func127.trans (congrArg some (by kernel_rfl))
 t3 := Tryz.underlying3
 a3 := Tryz.isAgg3
 z3 := Tryz.sizeOf3
 v3 := Tryz.zeroValue3
 t4 := Tryz.underlying4
 a4 := Tryz.isAgg4
 z4 := Tryz.sizeOf4
 v4 := Tryz.zeroValue4
 t9 := Tryz.underlying9
 a9 := Tryz.isAgg9
 z9 := Tryz.sizeOf9
 v9 := Tryz.zeroValue9 }
open Go.RowKit Go.Lib in
theorem Tryz.strings_HasPrefix (s p : ByteArray) (w : World) :
  Calls Tryz.prog 101 #[.string s, .string p] w fun e w' => e = .returned (.bool (Lib.hasPrefix s.data.toList p.data.toList)) ∧ w' = w := Any.strings_HasPrefix Tryz.lays99 s p w
end Go.Proofs
namespace Go.Proofs
open Go.Shelf
def Tryz.lays152_ren : Go.Shelf.Ren := ⟨fun | 152 => 62 | 137 => 61 | 119 => 86 | 224 => 87 | 225 => 88 | 217 => 85 | 266 => 116 | n => n, fun | 9 => 9 | 21 => 21 | 3 => 3 | 4 => 4 | 5 => 5 | 0 => 0 | 46 => 91 | n => n, fun | n => n⟩
theorem Tryz.lays152 : Go.Proofs.Lays.n152 Tryz.prog Tryz.lays152_ren := {
 mixed := by kernel_rfl
 f119 := Tryz.func86.trans (congrArg some (by kernel_rfl))
 f137 := Tryz.func61.trans (congrArg some (by kernel_rfl))
 f152 := Tryz.func62.trans (congrArg some (by kernel_rfl))
 f217 := Tryz.func85.trans (congrArg some (by kernel_rfl))
 f224 := Tryz.func87.trans (congrArg some (by kernel_rfl))
 f225 := Tryz.func88.trans (congrArg some (by kernel_rfl))
 f266 := Tryz.func116.trans (congrArg some (by kernel_rfl))
 t0 := Tryz.underlying0
 a0 := Tryz.isAgg0
 z0 := Tryz.sizeOf0
 v0 := Tryz.zeroValue0
 t3 := Tryz.underlying3
 a3 := Tryz.isAgg3
 z3 := Tryz.sizeOf3
 v3 := Tryz.zeroValue3
 t4 := Tryz.underlying4
 a4 := Tryz.isAgg4
 z4 := Tryz.sizeOf4
 v4 := Tryz.zeroValue4
 t5 := Tryz.underlying5
 a5 := Tryz.isAgg5
 z5 := Tryz.sizeOf5
 v5 := Tryz.zeroValue5
 t9 := Tryz.underlying9
 a9 := Tryz.isAgg9
 z9 := Tryz.sizeOf9
 v9 := Tryz.zeroValue9
 t21 := Tryz.underlying21
 a21 := Tryz.isAgg21
 z21 := Tryz.sizeOf21
 v21 := Tryz.zeroValue21
 t46 := Tryz.underlying91
 a46 := Tryz.isAgg91
 z46 := Tryz.sizeOf91
 v46 := Tryz.zeroValue91 }
open Go.RowKit Go.Lib in
theorem Tryz.strings_IndexRune_ascii (s : ByteArray) (r : Int) (w : World) (h0 : 0 ≤ r) (h1 : r < 128) :
  Calls Tryz.prog 62 #[.string s, .int .i32 r] w fun e w' => e = .returned (.int .i64 (Lib.indexByte s.data.toList r.toNat.toUInt8)) ∧ w' = w := Any.strings_IndexRune_ascii Tryz.lays152 s r w h0 h1
def Tryz.lays226_ren : Go.Shelf.Ren := ⟨fun | 226 => 63 | n => n, fun | 3 => 3 | 4 => 4 | n => n, fun | n => n⟩
theorem Tryz.lays226 : Go.Proofs.Lays.n226 Tryz.prog Tryz.lays226_ren := {
 mixed := by kernel_rfl
 f226 := Tryz.func63.trans (congrArg some (by kernel_rfl))
 t3 := Tryz.underlying3
 a3 := Tryz.isAgg3
 z3 := Tryz.sizeOf3
 v3 := Tryz.zeroValue3
 t4 := Tryz.underlying4
 a4 := Tryz.isAgg4
 z4 := Tryz.sizeOf4
 v4 := Tryz.zeroValue4 }
open Go.RowKit Go.Lib in
theorem Tryz.strings_shouldUseASCIISet (n : Int) (w : World) :
  Calls Tryz.prog 63 #[.int .i64 n] w fun e w' => e = .returned (.bool (decide (8 < n))) ∧ w' = w := Any.strings_shouldUseASCIISet Tryz.lays226 n w
def Tryz.lays153_ren : Go.Shelf.Ren := ⟨fun | 153 => 44 | 152 => 62 | 226 => 63 | 227 => 64 | 228 => 65 | 137 => 61 | 119 => 86 | 224 => 87 | 225 => 88 | 217 => 85 | 266 => 116 | n => n, fun | 9 => 9 | 3 => 3 | 4 => 4 | 5 => 5 | 21 => 21 | 117 => 89 | 116 => 88 | 0 => 0 | 46 => 91 | 124 => 106 | n => n, fun | n => n⟩
theorem Tryz.lays153 : Go.Proofs.Lays.n153 Tryz.prog Tryz.lays153_ren := {
 mixed := by kernel_rfl
 f119 := Tryz.func86.trans (congrArg some (by kernel_rfl))
 f137 := Tryz.func61.trans (congrArg some (by kernel_rfl))
 f152 := Tryz.func62.trans (congrArg some (by kernel_rfl))
 f153 := Tryz.func44.trans (congrArg some (by kernel_rfl))
 f217 := Tryz.func85.trans (congrArg some (by kernel_rfl))
 f224 := Tryz.func87.trans (congrArg some (by kernel_rfl))
 f225 := Tryz.func88.trans (congrArg some (by kernel_rfl))
 f226 := Tryz.func63.trans (congrArg some (by kernel_rfl))
 f227 := Tryz.func64.trans (congrArg some (by kernel_rfl))
 f228 := Tryz.func65.trans (congrArg some (by kernel_rfl))
 f266 := Tryz.func116.trans (congrArg some (by kernel_rfl))
 t0 := Tryz.underlying0
 a0 := Tryz.isAgg0
 z0 := Tryz.sizeOf0
 v0 := Tryz.zeroValue0
 t3 := Tryz.underlying3
 a3 := Tryz.isAgg3
 z3 := Tryz.sizeOf3
 v3 := Tryz.zeroValue3
 t4 := Tryz.underlying4
 a4 := Tryz.isAgg4
 z4 := Tryz.sizeOf4
 v4 := Tryz.zeroValue4
 t5 := Tryz.underlying5
 a5 := Tryz.isAgg5
 z5 := Tryz.sizeOf5
 v5 := Tryz.zeroValue5
 t9 := Tryz.underlying9
 a9 := Tryz.isAgg9
 z9 := Tryz.sizeOf9
 v9 := Tryz.zeroValue9
 t21 := Tryz.underlying21
 a21 := Tryz.isAgg21
 z21 := Tryz.sizeOf21
 v21 := Tryz.zeroValue21
 t46 := Tryz.underlying91
 a46 := Tryz.isAgg91
 z46 := Tryz.sizeOf91
 v46 := Tryz.zeroValue91
 t116 := Tryz.underlying88
 a116 := Tryz.isAgg88
 z116 := Tryz.sizeOf88
 t117 := Tryz.underlying89
 a117 := Tryz.isAgg89
 z117 := Tryz.sizeOf89
 v117 := Tryz.zeroValue89
 t124 := Tryz.underlying106
 a124 := Tryz.isAgg106
 z124 := Tryz.sizeOf106
 v124 := Tryz.zeroValue106 }
open Go.RowKit Go.Lib in
theorem Tryz.strings_IndexAny_long (hv116 : ∀ w, (zeroValue 88).run Tryz.prog w = .ok (.agg (Array.replicate 256 (.bool false))) w) (s chars : ByteArray) (w : World) (h2 : 2 ≤ chars.size) (h8 : 8 < s.size) (hs : s.size < 4294967281) (hcs : chars.size < 4294967281) (hascii : ∀ (j : Nat) b, chars.data.toList[j]? = some b → b.toNat < 128) :
  Calls Tryz.prog 44 #[.string s, .string chars] w fun e w' => e = .returned (.int .i64 (Lib.indexAny s.data.toList chars.data.toList)) ∧ w' = ((w.alloc (.cells (Lib.setCells chars.data.toList) 88)).alloc (.cells (Lib.setCells chars.data.toList) 88)) := Any.strings_IndexAny_long Tryz.lays153 hv116 (by kernel_rfl) s chars w h2 h8 hs hcs hascii
end Go.Proofs
namespace Go.Proofs.YtmdgpejedbkkdaaGreatDoor
section
open Go.RowKit
open Nw N8 Q6 F9 B10 E11
theorem enc_facts (r : Nat) (h : 128 ≤ r) : ∃ n : Nat, (Utf8.encode (r : Int)).size = n ∧ 2 ≤ n ∧ n ≤ 4 ∧ (n = 2 → ∃ (a b : UInt8), 128 ≤ b.toNat ∧ Utf8.encode (r : Int) = ⟨#[a, b]⟩) := by
 unfold Utf8.encode
 simp only
 by_cases hv : Utf8.valid (r : Int) = true
 ·simp only [hv, if_true, Int.toNat_natCast]
  rw [if_neg (by omega)]
  by_cases h1 : r < 2048
  ·rw [if_pos h1]
   refine ⟨2, rfl, by omega, by omega, fun _ => ⟨_, _, ?_, rfl⟩⟩
   rw [UInt8.toNat_ofNat']
   omega
  ·rw [if_neg h1]
   by_cases h2 : r < 65536
   ·rw [if_pos h2]; exact ⟨3, rfl, by omega, by omega, fun e => by cases e⟩
   ·rw [if_neg h2]; exact ⟨4, rfl, by omega, by omega, fun e => by cases e⟩
 ·have : Utf8.valid (r : Int) = false := Bool.eq_false_iff.2 hv
  simp only [this, Bool.false_eq_true, if_false, Utf8.runeError]
  exact ⟨3, rfl, by omega, by omega, fun e => by cases e⟩
theorem ValidRune_q (r : Nat) (w : World) : Calls Tryz.prog 86 #[.int .i32 (r : Int)] w fun e w' => (e = .returned (.bool true) ∨ e = .returned (.bool false)) ∧ w' = w := by
 have k0 : decide ((0 : Int) ≤ (r : Int)) = true := decide_eq_true (by omega)
 by_cases h1 : (r : Int) < 55296
 ·go_enter Tryz.func86, Tryz.ntmps86
  go_wp2
  go_ret
  exact ⟨.inl rfl, rfl⟩
 ·have k1 : decide ((r : Int) < 55296) = false := decide_eq_false h1
  by_cases h2 : 57343 < (r : Int)
  ·by_cases h3 : (r : Int) ≤ 1114111
   ·go_enter Tryz.func86, Tryz.ntmps86
    go_wp2
    go_ret
    exact ⟨.inl rfl, rfl⟩
   ·have k3 : decide ((r : Int) ≤ 1114111) = false := decide_eq_false h3
    go_enter Tryz.func86, Tryz.ntmps86
    go_wp2
    go_ret
    exact ⟨.inr rfl, rfl⟩
  ·have k2 : decide (57343 < (r : Int)) = false := decide_eq_false h2
   go_enter Tryz.func86, Tryz.ntmps86
   go_wp2
   go_ret
   exact ⟨.inr rfl, rfl⟩
theorem drewN_q (w : World) (n : Nat) : Below w.heap.size w (w.drewN n) := ⟨rfl, rfl, rfl, Nat.le_refl _, fun _ _ => rfl⟩
theorem IndexRune_q (Q : ByteArray) (hz : Q.size = 2) (q0 : (Q[0]'(by omega)).toNat = 34) (q1 : (Q[1]'(by omega)).toNat = 39) (r : Nat) (h1 : 128 ≤ r) (h2 : r ≤ 2147483647) (w : World) :
  Calls Tryz.prog 62 #[.string Q, .int .i32 (r : Int)] w fun e w' => e = .returned (.int .i64 (-1)) ∧ Below w.heap.size w w' := by
 have k0 : decide ((0 : Int) ≤ (r : Int)) = true := decide_eq_true (by omega)
 have k1 : decide ((r : Int) < 128) = false := decide_eq_false (by omega)
 by_cases h3 : r = 65533
 ·subst h3
  have n0 := fun ty => run_next_ascii (P := Tryz.prog) w Q 0 ty (by omega) (by rw [q0]; decide)
  have n1 := fun ty => run_next_ascii (P := Tryz.prog) w Q 1 ty (by omega) (by rw [q1]; decide)
  have n2 := fun ty => run_next_end (P := Tryz.prog) w Q 2 ty (by omega)
  simp only [q0] at n0
  simp only [q1] at n1
  clear q0 q1
  go_enter Tryz.func62, Tryz.ntmps62
  go_wp2
  go_loopw [5, 6] (fun _ _ wr => wr = w.iter Q 0 ∨ wr = w.iter Q 1 ∨ wr = w.iter Q 2) (fun _ _ wr => 3 - wr.iterPos w.heap.size)
  case atStart => exact .inl rfl
  case round =>
   rcases hrel with rfl | rfl | rfl
   ·go_wp2
    go_roundw
    case rel => first | exact .inr (.inl rfl) | simp
    case measure => simp
   ·go_wp2
    go_roundw
    case rel => first | exact .inr (.inr rfl) | simp
    case measure => simp
   ·go_wp2
    go_ret
    exact ⟨rfl, (Below.refl _ _).alloc (Nat.le_refl _) _⟩
 ·have k3 : ((r : Int) == 65533) = false := beq_eq_false_iff_ne.2 (by omega)
  obtain ⟨n, hn, hn2, hn4, hb⟩ := enc_facts r h1
  have HV := hid (fun W => ValidRune_q r W)
  obtain ⟨E, hE⟩ : ∃ E, Utf8.encode (r : Int) = E := ⟨_, rfl⟩
  rw [hE] at hn hb
  by_cases h4 : n = 2
  ·subst h4
   obtain ⟨c, hc, h128⟩ : ∃ c : Nat, (E[1]'(by omega)).toNat = c ∧ 128 ≤ c := by
    obtain ⟨a, b, hb1, hE2⟩ := hb rfl
    subst hE2
    exact ⟨_, rfl, hb1⟩
   have hne : ((39 : Int) != (c : Int)) = true := by
    rw [bne_iff_ne]; omega
   have hne2 : ((39 : Int) == (c : Int)) = false := beq_eq_false_iff_ne.2 (by omega)
   have HIB : Hid (∀ (W : World) (a b : Nat), Calls Tryz.prog 61 #[.string ByteArray.empty, .int .u8 (c : Int)] (W.drewN (a + b)) fun e w'' => e = .returned (.int .i64 (-1)) ∧ ∃ n, w'' = W.drewN (a + n)) :=
    hid (fun W a b => (Tryz.strings_IndexByte ByteArray.empty (c : Int) (W.drewN (a + b))).mono fun e w'' ⟨h1, h2⟩ => ⟨h1, b, h2⟩)
   clear hb hn2 hn4 q0 h128
   go_enter Tryz.func62, Tryz.ntmps62
   go_wp2_with (go_at_call 86; refine (HV.out _).mono ?_; rintro e w1 ⟨rfl | rfl, rfl⟩)
   ·go_step3
    go_wp2
    rename_i K0 hK0
    have HK0 := hid hK0
    clear hK0
    go_loopw [9] (fun i wr => i = .int .i64 1 ∧ wr = w1) (fun _ _ => 0)
    case atStart => exact ⟨rfl, rfl⟩
    case round =>
     obtain ⟨rfl, rfl⟩ := hrel
     go_wp2
     go_step3
     go_wp2
     go_quiet (fail)
     go_wp2
     go_quiet (first | (go_at_call 61; exact HIB.out _ _ _))
     go_wp2
     simp (config := { zetaDelta := true }) only [Exit.noGoto, Exit.inBlock, Exit.then]
     go_ret
     first | exact ⟨rfl, Below.refl _ _⟩ | exact ⟨rfl, drewN_q _ _⟩
   ·go_ret
    exact ⟨rfl, Below.refl _ _⟩
  ·obtain ⟨m, rfl⟩ : ∃ m, n = m + 1 := ⟨n - 1, by omega⟩
   obtain ⟨M, hM⟩ : ∃ M : Int, (m : Int) = M := ⟨_, rfl⟩
   have hM2 : decide (M < 2) = false := decide_eq_false (by omega)
   have hM3 : 0 ≤ M ∧ M < 5 := by omega
   obtain ⟨N, hN⟩ : ∃ N : Int, ((E.size : Nat) : Int) = N := ⟨_, rfl⟩
   have hw : IntKind.i64.wrap (N - 1) = M := by
    rw [show N - 1 = M by omega]; exact wrap_small _ (by omega) (by omega)
   clear hb hn2 hn4 h4 q0 q1 hM hM3 hn
   go_enter Tryz.func62, Tryz.ntmps62
   go_wp2_with (go_at_call 86; refine (HV.out _).mono ?_; rintro e w1 ⟨rfl | rfl, rfl⟩)
   ·go_step3
    go_wp2
    rename_i K0 hK0
    have HK0 := hid hK0
    clear hK0
    go_loopw [9] (fun i wr => i = .int .i64 M ∧ wr = w1) (fun _ _ => 0)
    case atStart => exact ⟨rfl, rfl⟩
    case round =>
     obtain ⟨rfl, rfl⟩ := hrel
     go_wp2
     refine HK0.out _ _ ?_
     go_wp2
     simp (config := { zetaDelta := true }) only [Exit.noGoto, Exit.inBlock, Exit.then]
     go_ret
     first | exact ⟨rfl, Below.refl _ _⟩ | exact ⟨rfl, drewN_q _ _⟩
   ·go_ret
    exact ⟨rfl, Below.refl _ _⟩
theorem decode_skip (s : ByteArray) (k : Nat) (h : k < s.size) (ha : 128 ≤ (s[k]'h).toNat) : ∀ j, j < (Utf8.decode s k).2 → k + j < s.size ∧ 128 ≤ (s.get! (k + j)).toNat := by
 have hn : ¬ (s[k]'h).toNat < 128 := by omega
 have h0 : (s.get! (k + 0)).toNat = (s[k]'h).toNat := by rw [get_at s k h]
 have hb : ∀ j, j = 0 → k + j < s.size ∧ 128 ≤ (s.get! (k + j)).toNat := fun j e => by subst e; rw [h0]; exact ⟨h, ha⟩
 have hc : ∀ j, (decide (k + j < s.size) && (s.get! (k + j)).toNat / 64 == 2) = true → k + j < s.size ∧ 128 ≤ (s.get! (k + j)).toNat := fun j e => by
  rw [Bool.and_eq_true, beq_iff_eq] at e
  exact ⟨of_decide_eq_true e.1, by omega⟩
 intro j
 simp only [Utf8.decode, h0, hn, if_false]
 split
 ·rename_i h1
  rw [Bool.and_eq_true] at h1
  split
  ·intro hj
   have : j = 0 ∨ j = 1 := by omega
   rcases this with rfl | rfl
   ·exact hb 0 rfl
   ·exact hc 1 h1.2
  ·intro hj; exact hb j (by omega)
 ·split
  ·rename_i h1
   rw [Bool.and_eq_true, Bool.and_eq_true] at h1
   split
   ·intro hj
    have : j = 0 ∨ j = 1 ∨ j = 2 := by omega
    rcases this with rfl | rfl | rfl
    ·exact hb 0 rfl
    ·exact hc 1 h1.1.2
    ·exact hc 2 h1.2
   ·intro hj; exact hb j (by omega)
  ·split
   ·rename_i h1
    rw [Bool.and_eq_true, Bool.and_eq_true, Bool.and_eq_true] at h1
    split
    ·intro hj
     have : j = 0 ∨ j = 1 ∨ j = 2 ∨ j = 3 := by omega
     rcases this with rfl | rfl | rfl | rfl
     ·exact hb 0 rfl
     ·exact hc 1 h1.1.1.2
     ·exact hc 2 h1.1.2
     ·exact hc 3 h1.2
    ·intro hj; exact hb j (by omega)
   ·intro hj; exact hb j (by omega)
theorem get_data (s : ByteArray) (k : Nat) (h : k < s.size) : s.data.toList[k]? = some (s.get! k) := by
 rw [Lib.data_getElem? s k h]
 congr 1
 exact (get_at s k h).symm
end
section
open Go.RowKit
open Q6
theorem ret_b {a b : Bool} (h : a = b) : Ending.returned (.bool a) = .returned (.bool b) := by rw [h]
theorem ret_int {k : IntKind} {a b : Int} (h : a = b) : Ending.returned (.int k a) = .returned (.int k b) := by rw [h]
theorem ret_s {a b : ByteArray} (h : a = b) : Ending.returned (.string a) = .returned (.string b) := by rw [h]
theorem len_eq (s : ByteArray) : s.data.toList.length = s.size := rfl
theorem isC_beq (k c : UInt8) (x : Int) (h : (k.toNat : Int) = x) : ((c.toNat : Int) == x) = isC k c := by
 subst h
 unfold isC
 rw [Bool.eq_iff_iff]
 simp only [beq_iff_eq, decide_eq_true_eq]
 constructor
 ·intro h; apply UInt8.toNat_inj.1; omega
 ·intro h; rw [h]
theorem isC_bne (k c : UInt8) (x : Int) (h : (k.toNat : Int) = x) : ((c.toNat : Int) != x) = !isC k c := by
 show (!((c.toNat : Int) == x)) = _
 rw [isC_beq k c x h]
theorem isC_ne {k j c : UInt8} (h : isC k c = true) (hkj : k ≠ j) : isC j c = false := by
 rw [Bool.eq_false_iff]; intro e
 exact hkj ((isC_iff.1 h).symm.trans (isC_iff.1 e))
theorem printable_any (c : UInt8) (w : World) : Calls Tryz.prog 43 #[.int .u8 c.toNat] w fun e w' => e = .returned (.bool (good c)) ∧ w = w' := by
 by_cases h1 : (32 : Int) ≤ (c.toNat : Int)
 ·rcases Bool.eq_false_or_eq_true (isC 127 c) with h2 | h2
  all_goals
   have H : Hid (good c = !isC 127 c) := hid (by
    unfold good isC
    rw [decide_eq_true (by omega : 32 ≤ c.toNat), Bool.true_and, ← decide_not, decide_eq_decide]
    exact ⟨fun e e2 => e (by rw [e2]; rfl), fun e e2 => e (UInt8.toNat_inj.1 e2)⟩)
   have m := isC_bne 127 c 127 rfl
   rw [h2] at m H
   go_enter Tryz.func43, Tryz.ntmps43
   go_wp2
   all_goals (go_ret; exact ⟨ret_b H.out.symm, rfl⟩)
 ·have H : Hid (good c = false) := hid (by unfold good; rw [decide_eq_false (by omega : ¬ 32 ≤ c.toNat)]; rfl)
  go_enter Tryz.func43, Tryz.ntmps43
  go_wp2
  go_ret
  exact ⟨ret_b H.out.symm, rfl⟩
theorem contains_any (s : ByteArray) (l : List UInt8) (hl : s.data.toList = l) (c : UInt8) (w : World) :
  Calls Tryz.prog 42 #[.string s, .int .u8 c.toNat] w fun e w' => e = .returned (.bool (has l c)) ∧ w = w' := by
 subst hl
 have H := hid (index_has s.data.toList c)
 have hc : ((c.toNat : Int)).toNat.toUInt8 = c := by simp
 have hI := Tryz.strings_IndexByte s (c.toNat : Int)
 rw [hc] at hI
 generalize Lib.indexByte s.data.toList c = x at *
 clear hc
 go_enter Tryz.func42, Tryz.ntmps42
 go_wp2_with (go_at_call 61; refine (hI _).mono ?_; rintro e w' ⟨rfl, hw⟩; subst hw)
 go_ret
 exact ⟨ret_b H.out, rfl⟩
theorem has_row (c : UInt8) (w : World) : Calls Tryz.prog 42 #[.string ⟨#[44, 91, 93, 123, 125]⟩, .int .u8 c.toNat] w fun e w' => e = .returned (.bool (has marks c)) ∧ w = w' := contains_any _ _ rfl c w
theorem has_first (c : UInt8) (w : World) : Calls Tryz.prog 42 #[.string ⟨#[44, 91, 93, 123, 125, 63, 58, 35, 38, 42, 33, 124, 62, 39, 34, 37, 64, 96]⟩, .int .u8 c.toNat] w fun e w' => e = .returned (.bool (has firsts c)) ∧ w = w' := contains_any _ _ rfl c w
theorem row1_any (b c a : UInt8) (w : World) : Calls Tryz.prog 156 #[.int .u8 b.toNat, .int .u8 c.toNat, .int .u8 a.toNat] w fun e w' => e = .returned (.bool (rowF b c a)) ∧ w = w' := by
 have H : Hid (rowF b c a = !has marks c) := hid rfl
 go_enter Tryz.func156, Tryz.ntmps156
 go_wp2_with (go_at_call 42; refine (has_row _ _).mono ?_; rintro e w' ⟨rfl, rfl⟩)
 go_ret
 exact ⟨ret_b H.out.symm, rfl⟩
theorem single1_any (b c a : UInt8) (w : World) : Calls Tryz.prog 125 #[.int .u8 b.toNat, .int .u8 c.toNat, .int .u8 a.toNat] w fun e w' => e = .returned (.bool (goodF b c a)) ∧ w = w' := by
 have H : Hid (goodF b c a = good c) := hid rfl
 go_enter Tryz.func125, Tryz.ntmps125
 go_wp2_with (go_at_call 43; refine (printable_any _ _).mono ?_; rintro e w' ⟨rfl, rfl⟩)
 go_ret
 exact ⟨ret_b H.out.symm, rfl⟩
end
section
open Go.RowKit
open Q6
def Tells3 (g : Nat) (F : UInt8 → UInt8 → UInt8 → Bool) : Prop :=
 (∀ args w, (callFunc g args).run Tryz.prog w = .ok (.enter g args) w) ∧
 ∀ (b c a : UInt8) (w : World), Calls Tryz.prog g #[.int .u8 b.toNat, .int .u8 c.toNat, .int .u8 a.toNat] w fun e w' => e = .returned (.bool (F b c a)) ∧ w = w'
theorem getd (s : ByteArray) (k : Nat) (h : k < s.size) : s.data.toList.getD k 0 = s[k] := by
 rw [List.getD_eq_getElem?_getD, List.getElem?_eq_getElem (by rw [len_eq]; exact h)]; rfl
theorem bef_succ (l : List UInt8) (k : Nat) : bef l (k + 1) = l.getD k 0 := by unfold bef; rw [if_neg (by omega)]; rfl
theorem aft_in {l : List UInt8} {k : Nat} (h : k + 1 < l.length) : aft l k = l.getD (k + 1) 0 := by unfold aft; rw [if_pos h]
theorem aft_out {l : List UInt8} {k : Nat} (h : ¬ k + 1 < l.length) : aft l k = 10 := by unfold aft; rw [if_neg h]
theorem every_any (s : ByteArray) (g : Nat) (F : UInt8 → UInt8 → UInt8 → Bool) (w : World) (hs : s.size ≤ maxLen) (T : Tells3 g F) :
  Calls Tryz.prog 40 #[.string s, .func (.func g) #[] #[]] w fun e w' => e = .returned (.bool (everyB F s.data.toList)) ∧ w = w' := by
 unfold maxLen at hs
 obtain ⟨e1, t1⟩ := T
 have T1 : Hid (∀ (b c a : UInt8) (w : World), Calls Tryz.prog g #[.int .u8 b.toNat, .int .u8 c.toNat, .int .u8 a.toNat] w fun e w' => e = .returned (.bool (F b c a)) ∧ w = w') := hid t1
 clear t1
 have hlen : s.data.toList.length = s.size := len_eq s
 have HL := hid hlen
 clear hlen
 go_enter Tryz.func40, Tryz.ntmps40
 go_wp2
 go_loop [5, 10] (fun b i => ∃ k : Nat, k ≤ s.size ∧ i = .int .i64 k ∧ b = .int .u8 ((bef s.data.toList k).toNat : Int) ∧ ∀ j, j < k → okI F s.data.toList j = true) (fun _ i => s.size - (intOf i).toNat)
 case atStart => exact ⟨0, Nat.zero_le _, rfl, rfl, fun j h => absurd h (Nat.not_lt_zero _)⟩
 case round =>
  obtain ⟨k, hk, rfl, rfl, hall⟩ := hrel
  have HA := hid hall; clear hall
  by_cases hlt : k < s.size
  ·have HX := hid (getd s k hlt)
   have HBS := hid (bef_succ s.data.toList k)
   have HO : Hid (okI F s.data.toList k = F (bef s.data.toList k) (s.data.toList.getD k 0) (aft s.data.toList k)) := hid rfl
   by_cases hnx : k + 1 < s.size
   ·have HY := hid ((aft_in (l := s.data.toList) (k := k) (by rw [HL.out]; exact hnx)).trans (getd s (k + 1) hnx))
    have hcall := T1.out (bef s.data.toList k) s[k] s[k + 1]
    have hnxz : (k : Int) + 1 < (s.size : Int) := by omega
    have hF : F (bef s.data.toList k) s[k] s[k + 1] = okI F s.data.toList k := by rw [HO.out, HX.out, HY.out]
    rw [hF] at hcall
    clear hF
    generalize bef s.data.toList k = bb at *
    rcases Bool.eq_false_or_eq_true (okI F s.data.toList k) with h3 | h3
    ·rw [h3] at hcall
     have HB := hid h3; clear h3
     go_wp2_with (go_at_fn g; refine (hcall _).mono ?_; rintro e w' ⟨rfl, rfl⟩)
     go_round
     case rel =>
      refine ⟨k + 1, by omega, by go_num, by rw [HBS.out, HX.out], fun j hj => ?_⟩
      rcases Nat.lt_succ_iff_lt_or_eq.1 hj with h | rfl
      ·exact HA.out j h
      ·exact HB.out
     case measure => simp [intOf]; omega
    ·rw [h3] at hcall
     have HB := hid h3; clear h3
     go_wp2_with (go_at_fn g; refine (hcall _).mono ?_; rintro e w' ⟨rfl, rfl⟩)
     go_ret
     exact ⟨ret_b (every_no (i := k) (by rw [HL.out]; exact hlt) HB.out).symm, rfl⟩
   ·have HY := hid (aft_out (l := s.data.toList) (k := k) (by rw [HL.out]; exact hnx))
    have hcall := T1.out (bef s.data.toList k) s[k] 10
    have h10 : ((10 : UInt8).toNat : Int) = 10 := rfl
    rw [h10] at hcall
    clear h10
    have hnxz : ¬ (k : Int) + 1 < (s.size : Int) := by omega
    have hF : F (bef s.data.toList k) s[k] 10 = okI F s.data.toList k := by rw [HO.out, HX.out, HY.out]
    rw [hF] at hcall
    clear hF
    generalize bef s.data.toList k = bb at *
    rcases Bool.eq_false_or_eq_true (okI F s.data.toList k) with h3 | h3
    ·rw [h3] at hcall
     have HB := hid h3; clear h3
     go_wp2_with (go_at_fn g; refine (hcall _).mono ?_; rintro e w' ⟨rfl, rfl⟩)
     go_round
     case rel =>
      refine ⟨k + 1, by omega, by go_num, by rw [HBS.out, HX.out], fun j hj => ?_⟩
      rcases Nat.lt_succ_iff_lt_or_eq.1 hj with h | rfl
      ·exact HA.out j h
      ·exact HB.out
     case measure => simp [intOf]; omega
    ·rw [h3] at hcall
     have HB := hid h3; clear h3
     go_wp2_with (go_at_fn g; refine (hcall _).mono ?_; rintro e w' ⟨rfl, rfl⟩)
     go_ret
     exact ⟨ret_b (every_no (i := k) (by rw [HL.out]; exact hlt) HB.out).symm, rfl⟩
  ·go_wp2
   go_ret
   obtain rfl : k = s.size := by omega
   exact ⟨ret_b (every_yes (fun i hi => HA.out i (by rw [HL.out] at hi; exact hi))).symm, rfl⟩
end
section
open Go.RowKit Go.Sort
open Nw N8
def Row4 (w : World) (g : Nat) (t : TypeId) (a b c d : Value) : Prop := w.heap[g]? = some (.cells #[a, b, c, d] t (0, 0))
section
variable {w w' : World} {g B : Nat} {t : TypeId} {a b c d : Value}
theorem Row4.make (w : World) (t : TypeId) (a b c d : Value) : Row4 (w.alloc (.cells #[a, b, c, d] t)) w.heap.size t a b c d := by
 show (w.heap.push _)[w.heap.size]? = _
 simp
theorem Row4.below (h : Row4 w g t a b c d) (hb : Below B w w') (hg : g < B) : Row4 w' g t a b c d := (hb.block g hg).trans h
theorem Row4.lt (h : Row4 w g t a b c d) : g < w.heap.size := by
 rcases Nat.lt_or_ge g w.heap.size with hl | hl
 ·exact hl
 ·unfold Row4 at h; rw [Array.getElem?_eq_none hl] at h; cases h
theorem Row4.alloc (h : Row4 w g t a b c d) (o : Obj) : Row4 (w.alloc o) g t a b c d := (Below.heap_alloc w o g h.lt).trans h
theorem Row4.cells (h : Row4 w g t a b c d) : w.cell? ⟨g, 0, none⟩ = some a ∧ w.cell? ⟨g, 1, none⟩ = some b ∧ w.cell? ⟨g, 2, none⟩ = some c ∧ w.cell? ⟨g, 3, none⟩ = some d :=
 ⟨cell_of_row w g 0 _ t (0, 0) h, cell_of_row w g 1 _ t (0, 0) h, cell_of_row w g 2 _ t (0, 0) h, cell_of_row w g 3 _ t (0, 0) h⟩
theorem Row4.frozen (h : Row4 w g t a b c d) : w.frozen? ⟨g, 0, none⟩ = false ∧ w.frozen? ⟨g, 1, none⟩ = false ∧ w.frozen? ⟨g, 2, none⟩ = false ∧ w.frozen? ⟨g, 3, none⟩ = false := by
 unfold Row4 at h
 simp [World.frozen?, h]
end
theorem belowNext {w w1 w2 : World} (h : Below w.heap.size w w1) (g : Below w1.heap.size w1 w2) : Below w.heap.size w w2 := h.trans (g.mono h.size)
theorem NdW.kid {w : World} {k : Int} {t : L8} {ks : List L8} {ds : List Nd} {c0 c1 c2 : Value} {A : Option Addr} {n cap : Nat} (h : NdW w (.mk k t ks ds) c0 c1 c2 (.slice A n cap)) (j : Nat) (hj : j < ds.length) :
  ∃ (b o : Nat) (e0 e1 e2 e3 : Value), A = some ⟨b, o, none⟩ ∧ b < w.heap.size ∧ w.cell? ⟨b, o + j * 4, none⟩ = some e0 ∧ w.cell? ⟨b, o + j * 4 + 1, none⟩ = some e1 ∧
    w.cell? ⟨b, o + j * 4 + 2, none⟩ = some e2 ∧ w.cell? ⟨b, o + j * 4 + 3, none⟩ = some e3 ∧ NdW w (ds[j]'hj) e0 e1 e2 e3 := by
 obtain ⟨_, _, _, A', cap', hA', _, _, _, hkid⟩ := h.parts
 have hAe : A = A' := by injection hA'
 subst hAe
 exact hkid j hj
def Boxed (w0 w : World) (d : Nd) (c0 c1 c2 c3 : Value) : Prop := Below w0.heap.size w0 w ∧ Row4 w w0.heap.size 25 c0 c1 c2 c3 ∧ NdW w d c0 c1 c2 c3
theorem Boxed.make {w : World} {d : Nd} {c0 c1 c2 c3 : Value} (h : NdW w d c0 c1 c2 c3) : Boxed w (w.alloc (.cells #[c0, c1, c2, c3] 25)) d c0 c1 c2 c3 :=
 ⟨(Below.refl _ _).alloc (Nat.le_refl _) _, Row4.make w _ _ _ _ _, h.below ((Below.refl _ _).alloc (Nat.le_refl _) _)⟩
theorem Boxed.go {w0 w w' : World} {d : Nd} {c0 c1 c2 c3 : Value} (h : Boxed w0 w d c0 c1 c2 c3) (hb : Below w.heap.size w w') : Boxed w0 w' d c0 c1 c2 c3 :=
 ⟨belowNext h.1 hb, h.2.1.below hb h.2.1.lt, h.2.2.below hb⟩
end
section
open Go.RowKit Go.Sort
open Nw N8
theorem ret_i2 {a b c d : Int} (h : a = b) (g : c = d) : Ending.returned (.tuple #[.int .i64 a, .int .i64 c]) = .returned (.tuple #[.int .i64 b, .int .i64 d]) := by rw [h, g]
theorem ndw_shape {w : World} {d : Nd} {c0 c1 c2 c3 : Value} (h : NdW w d c0 c1 c2 c3) :
  ∃ (k : Int) (s : ByteArray) (a : Option Addr) (n c : Nat) (A : Option Addr) (m q : Nat), c0 = .int .i64 k ∧ c1 = .string s ∧ c2 = .slice a n c ∧ c3 = .slice A m q := by
 cases d with
 | mk k t ks ds =>
  obtain ⟨h0, h1, ⟨a, c, h4, _⟩, A, cap, h3, _⟩ := h.parts
  exact ⟨k, _, a, _, c, A, _, cap, h0, h1, h4, h3⟩
theorem measure_any (N : Nat) : ∀ (d : Nd), cntT d ≤ N → ∀ (most : Int), (cntT d : Int) ≤ most → most ≤ 1000000 → ∀ (c0 c1 c2 c3 : Value) (w : World), NdW w d c0 c1 c2 c3 →
  Calls Tryz.prog 77 #[.agg #[c0, c1, c2, c3], .int .i64 most] w fun e w' => e = .returned (.tuple #[.int .i64 (cntT d : Int), .int .i64 (depT d : Int)]) ∧ Below w.heap.size w w' := by
 induction N with
 | zero => intro d h; have := cntT_pos d; omega
 | succ N ih =>
  intro d hN most hmost hbig c0 c1 c2 c3 w hd
  cases d with
  | mk k t ks ds =>
   have HB0 := hid (Boxed.make hd)
   obtain ⟨rfl, rfl, _, A, cap, rfl, hcap, hm, hnil, _⟩ := hd.parts
   have HIH := hid ih
   obtain ⟨n, hn⟩ : ∃ n, ds.length = n := ⟨_, rfl⟩
   have HN := hid hn
   rw [cntT] at hmost hN
   have hnl : n ≤ 1000000 := by have := cntL_len ds; omega
   have hcN : cntL ds ≤ N := by omega
   rw [cntT, depT]
   have HC := hid hmost
   have HBG := hid hbig
   have HCN := hid hcN
   have HDL : Hid (depL ds ≤ cntL ds) := hid (by
    have := depT_cnt _ (.mk k t ks ds) (Nat.le_refl _)
    rw [depT, cntT] at this; omega)
   obtain ⟨TOT, hT⟩ : ∃ TOT, cntL ds = TOT := ⟨_, rfl⟩
   obtain ⟨DOT, hD⟩ : ∃ DOT, depL ds = DOT := ⟨_, rfl⟩
   have HT := hid hT
   have HD := hid hD
   rw [hT, hD]
   rw [hn] at HB0 hcap ⊢
   clear ih hd hn hcN hT hD hN hnil
   rw [HT.out] at hmost
   obtain ⟨TT, hTT⟩ : ∃ TT, ba t = TT := ⟨_, rfl⟩
   rw [hTT] at HB0 ⊢
   clear hTT
   go_enter Tryz.func77, Tryz.ntmps77
   obtain ⟨x0, x1, x2, x3⟩ := HB0.out.2.1.cells
   go_wp2
   clear x0 x1 x2 x3
   go_loopw [4, 5, 7, 8, 9, 13] (fun sc sd s7 s8 s9 si wr => ∃ (j C D : Nat), j ≤ n ∧ C ≤ 1000000 ∧ (1 ≤ C ∧ D ≤ C) ∧ si = .int .i64 (j : Int) ∧ sc = .int .i64 (C : Int) ∧ sd = .int .i64 (D : Int) ∧ Hid (C = 1 + cntL (ds.take j)) ∧ Hid (D = 1 + depL (ds.take j)) ∧ Hid (Boxed w wr (.mk k t ks ds) (.int .i64 k) (.string TT) c2 (.slice A n cap))) (fun _ _ _ _ _ si _ => n - (intOf si).toNat)
   case atStart => exact ⟨0, 1, 1, Nat.zero_le _, by omega, ⟨by omega, by omega⟩, rfl, rfl, rfl, hid rfl, hid rfl, HB0⟩
   case round =>
    clear HB0
    obtain ⟨j, C, D, hj, hC, ⟨hC1, hD⟩, rfl, rfl, rfl, HCJ, HDJ, HB⟩ := hrel
    by_cases hlt : j < n
    ·have hjl : j < ds.length := by rw [HN.out]; exact hlt
     have hjz : (j : Int) < (n : Int) := by omega
     obtain ⟨b, o, e0, e1, e2, e3, rfl, hb, y0, y1, y2, y3, hnd⟩ := HB.out.2.2.kid j hjl
     obtain ⟨k', s', a', n', c', A', m', q', rfl, rfl, rfl, rfl⟩ := ndw_shape hnd
     have hcj := cntL_take_succ hjl
     have hdj := depL_take_succ hjl
     have hle := cntL_take_le ds (j + 1)
     have hpos := cntT_pos (ds[j]'hjl)
     have hdc := depT_cnt _ (ds[j]'hjl) (Nat.le_refl _)
     have hsum : C + cntT (ds[j]'hjl) = 1 + cntL (ds.take (j + 1)) := by rw [hcj, HCJ.out]; omega
     have hal : Below wr.heap.size wr (wr.alloc (.cells #[.int .i64 k', .string s', .slice a' n' c', .slice A' m' q'] 25)) := (Below.refl _ _).alloc (Nat.le_refl _) _
     have hsm : (C : Int) + (cntT (ds[j]'hjl) : Int) ≤ most := by have := HC.out; have := HT.out; omega
     have HR := hid (HIH.out (ds[j]'hjl) (by have := cntL_mem (List.getElem_mem hjl); have := HCN.out; omega) (most - (C : Int)) (by omega) (by omega) _ _ _ _ _ (hnd.below hal))
     have HS := hid hsum
     have HB1 := hid (HB.out.go hal)
     have HDS : Hid (max D (depT (ds[j]'hjl) + 1) = 1 + depL (ds.take (j + 1))) := hid (by rw [hdj, HDJ.out]; omega)
     obtain ⟨z, hz⟩ : ∃ z, cntT (ds[j]'hjl) = z := ⟨_, rfl⟩
     obtain ⟨y, hy⟩ : ∃ y, depT (ds[j]'hjl) = y := ⟨_, rfl⟩
     rw [hz, hy] at HR
     rw [hz] at hsm HS hpos hdc
     rw [hy] at hdc HDS
     clear hnd hcj hdj hle hsum hz hy hal
     have p1 : ((C : Int) == most) = false := by rw [beq_eq_false_iff_ne]; omega
     have p2 : IntKind.i64.wrap (most - (C : Int)) = most - (C : Int) := IntWalk.i64_in _ (by omega)
     have hCz : C + z ≤ 1000000 := by omega
     have hyb : y ≤ 1000000 := by omega
     obtain ⟨M, hM⟩ : ∃ M, most - (C : Int) = M := ⟨_, rfl⟩
     rw [hM] at HR p2
     go_wp2_with (go_at_call 77; refine HR.out.mono ?_; rintro e w2 ⟨rfl, hb2⟩)
     have HB2 := hid (HB1.out.go hb2)
     clear hb2
     exact ⟨⟨j + 1, C + z, max D (y + 1), by omega, hCz, ⟨by omega, by omega⟩, by go_num, by go_num, by go_num, HS, HDS, HB2⟩, by simp [intOf]; omega⟩
    ·obtain rfl : j = n := by omega
     have HE : Hid (C = 1 + TOT) := hid (by rw [HCJ.out, List.take_of_length_le (by rw [HN.out]; exact Nat.le_refl _), HT.out])
     have HE2 : Hid (D = 1 + DOT) := hid (by rw [HDJ.out, List.take_of_length_le (by rw [HN.out]; exact Nat.le_refl _), HD.out])
     go_wp2
     refine bodyPost_ret (v := .tuple #[.int .i64 (C : Int), .int .i64 (D : Int)]) (by simp [results, Tryz.results77, go_sem]) rfl ⟨ret_i2 (by rw [HE.out]) (by rw [HE2.out]), HB.out.1⟩
end
end Go.Proofs.YtmdgpejedbkkdaaGreatDoor
