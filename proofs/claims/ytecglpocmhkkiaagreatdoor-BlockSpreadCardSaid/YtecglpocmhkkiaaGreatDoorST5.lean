/- Shelf, QuoByte, QuoEvery -/
import Derived.BigQuiet
import Derived.Deep.QuietTactic
import Derived.Lib.Hide
import Derived.ProofKit
import Derived.Shelf.Lay
import Derived.Shelf.Small.Strs
import Derived.Shelf.Strings.Prefix
import Derived.Shelf.Strings.Trim
import Derived.Test.YtecglpocmhkkiaaGreatDoorProg
import Derived.Test.YtecglpocmhkkiaaGreatDoorRows
import Derived.Test.YtecglpocmhkkiaaGreatDoorST1
import Derived.WalkKit
set_option linter.unusedVariables false
set_option linter.unusedSimpArgs false
set_option maxRecDepth 100000
set_option maxHeartbeats 16000000
open Go.Lib (hid)
namespace Go.Proofs
open Go.Shelf
def Tryz.lays161_ren : Go.Shelf.Ren := ⟨fun | 161 => 53 | 231 => 81 | 227 => 82 | 233 => 83 | 235 => 84 | 228 => 108 | 197 => 106 | 151 => 109 | 260 => 128 | 152 => 129 | 137 => 104 | 119 => 144 | 224 => 126 | 225 => 125 | 217 => 124 | 266 => 142 | n => n, fun | 9 => 9 | 4 => 4 | 3 => 3 | 5 => 5 | 117 => 99 | 116 => 98 | 0 => 0 | 124 => 102 | 105 => 113 | 21 => 21 | 119 => 136 | 46 => 122 | 139 => 139 | 138 => 138 | n => n, fun | 3 => 1 | 4 => 2 | n => n⟩
theorem Tryz.lays161 : Go.Proofs.Lays.n161 Tryz.prog Tryz.lays161_ren := {
 mixed := by kernel_rfl
 f119 := Tryz.func144.trans (congrArg some (by kernel_rfl))
 f137 := Tryz.func104.trans (congrArg some (by kernel_rfl))
 f151 := Tryz.func109.trans (congrArg some (by kernel_rfl))
 f152 := Tryz.func129.trans (congrArg some (by kernel_rfl))
 f161 := Tryz.func53.trans (congrArg some (by kernel_rfl))
 f197 := Tryz.func106.trans (congrArg some (by kernel_rfl))
 f217 := Tryz.func124.trans (congrArg some (by kernel_rfl))
 f224 := Tryz.func126.trans (congrArg some (by kernel_rfl))
 f225 := Tryz.func125.trans (congrArg some (by kernel_rfl))
 f227 := Tryz.func82.trans (congrArg some (by kernel_rfl))
 f228 := Tryz.func108.trans (congrArg some (by kernel_rfl))
 f231 := Tryz.func81.trans (congrArg some (by kernel_rfl))
 f233 := Tryz.func83.trans (congrArg some (by kernel_rfl))
 f235 := Tryz.func84.trans (congrArg some (by kernel_rfl))
 f260 := Tryz.func128.trans (congrArg some (by kernel_rfl))
 f266 := Tryz.func142.trans (congrArg some (by kernel_rfl))
 t0 := Tryz.underlying0
 a0 := Tryz.isAgg0
 z0 := Tryz.sizeOf0
 v0 := Tryz.zeroValue0
 t3 := Tryz.underlying3
 a3 := Tryz.isAgg3
 z3 := Tryz.sizeOf3
 v3 := Tryz.zeroValue3
 t4 := Tryz.underlying4
 a4 := Tryz.isAgg4
 z4 := Tryz.sizeOf4
 v4 := Tryz.zeroValue4
 t5 := Tryz.underlying5
 a5 := Tryz.isAgg5
 z5 := Tryz.sizeOf5
 v5 := Tryz.zeroValue5
 t9 := Tryz.underlying9
 a9 := Tryz.isAgg9
 z9 := Tryz.sizeOf9
 v9 := Tryz.zeroValue9
 t21 := Tryz.underlying21
 a21 := Tryz.isAgg21
 z21 := Tryz.sizeOf21
 v21 := Tryz.zeroValue21
 t46 := Tryz.underlying122
 a46 := Tryz.isAgg122
 z46 := Tryz.sizeOf122
 v46 := Tryz.zeroValue122
 t105 := Tryz.underlying113
 a105 := Tryz.isAgg113
 z105 := Tryz.sizeOf113
 v105 := Tryz.zeroValue113
 t116 := Tryz.underlying98
 a116 := Tryz.isAgg98
 z116 := Tryz.sizeOf98
 t117 := Tryz.underlying99
 a117 := Tryz.isAgg99
 z117 := Tryz.sizeOf99
 v117 := Tryz.zeroValue99
 t119 := Tryz.underlying136
 a119 := Tryz.isAgg136
 z119 := Tryz.sizeOf136
 t124 := Tryz.underlying102
 a124 := Tryz.isAgg102
 z124 := Tryz.sizeOf102
 v124 := Tryz.zeroValue102
 t138 := Tryz.underlying138
 a138 := Tryz.isAgg138
 z138 := Tryz.sizeOf138
 v138 := Tryz.zeroValue138
 t139 := Tryz.underlying139
 a139 := Tryz.isAgg139
 z139 := Tryz.sizeOf139
 v139 := Tryz.zeroValue139
 g3 := by kernel_rfl
 g4 := by kernel_rfl }
open Go.RowKit in
theorem Tryz.strings_TrimLeft_one (s : ByteArray) (c : UInt8) (hc : c.toNat < 128) (w : World) :
  Calls Tryz.prog 53 #[.string s, .string ⟨#[c]⟩] w fun e w' => e = .returned (.string ⟨(Lib.trimLeftB s.data.toList c).toArray⟩) ∧ w' = w := Any.strings_TrimLeft_one Tryz.lays161 s c hc w
def Tryz.lays162_ren : Go.Shelf.Ren := ⟨fun | 162 => 55 | 232 => 86 | 227 => 82 | 234 => 87 | 236 => 88 | 228 => 108 | 271 => 110 | 151 => 109 | 120 => 130 | 197 => 106 | 152 => 129 | 260 => 128 | 137 => 104 | 119 => 144 | 224 => 126 | 225 => 125 | 217 => 124 | 266 => 142 | n => n, fun | 9 => 9 | 4 => 4 | 3 => 3 | 5 => 5 | 117 => 99 | 116 => 98 | 0 => 0 | 124 => 102 | 21 => 21 | 105 => 113 | 46 => 122 | 119 => 136 | 139 => 139 | 138 => 138 | n => n, fun | 3 => 1 | 4 => 2 | n => n⟩
theorem Tryz.lays162 : Go.Proofs.Lays.n162 Tryz.prog Tryz.lays162_ren := {
 mixed := by kernel_rfl
 f119 := Tryz.func144.trans (congrArg some (by kernel_rfl))
 f120 := Tryz.func130.trans (congrArg some (by kernel_rfl))
 f137 := Tryz.func104.trans (congrArg some (by kernel_rfl))
 f151 := Tryz.func109.trans (congrArg some (by kernel_rfl))
 f152 := Tryz.func129.trans (congrArg some (by kernel_rfl))
 f162 := Tryz.func55.trans (congrArg some (by kernel_rfl))
 f197 := Tryz.func106.trans (congrArg some (by kernel_rfl))
 f217 := Tryz.func124.trans (congrArg some (by kernel_rfl))
 f224 := Tryz.func126.trans (congrArg some (by kernel_rfl))
 f225 := Tryz.func125.trans (congrArg some (by kernel_rfl))
 f227 := Tryz.func82.trans (congrArg some (by kernel_rfl))
 f228 := Tryz.func108.trans (congrArg some (by kernel_rfl))
 f232 := Tryz.func86.trans (congrArg some (by kernel_rfl))
 f234 := Tryz.func87.trans (congrArg some (by kernel_rfl))
 f236 := Tryz.func88.trans (congrArg some (by kernel_rfl))
 f260 := Tryz.func128.trans (congrArg some (by kernel_rfl))
 f266 := Tryz.func142.trans (congrArg some (by kernel_rfl))
 f271 := Tryz.func110.trans (congrArg some (by kernel_rfl))
 t0 := Tryz.underlying0
 a0 := Tryz.isAgg0
 z0 := Tryz.sizeOf0
 v0 := Tryz.zeroValue0
 t3 := Tryz.underlying3
 a3 := Tryz.isAgg3
 z3 := Tryz.sizeOf3
 v3 := Tryz.zeroValue3
 t4 := Tryz.underlying4
 a4 := Tryz.isAgg4
 z4 := Tryz.sizeOf4
 v4 := Tryz.zeroValue4
 t5 := Tryz.underlying5
 a5 := Tryz.isAgg5
 z5 := Tryz.sizeOf5
 v5 := Tryz.zeroValue5
 t9 := Tryz.underlying9
 a9 := Tryz.isAgg9
 z9 := Tryz.sizeOf9
 v9 := Tryz.zeroValue9
 t21 := Tryz.underlying21
 a21 := Tryz.isAgg21
 z21 := Tryz.sizeOf21
 v21 := Tryz.zeroValue21
 t46 := Tryz.underlying122
 a46 := Tryz.isAgg122
 z46 := Tryz.sizeOf122
 v46 := Tryz.zeroValue122
 t105 := Tryz.underlying113
 a105 := Tryz.isAgg113
 z105 := Tryz.sizeOf113
 v105 := Tryz.zeroValue113
 t116 := Tryz.underlying98
 a116 := Tryz.isAgg98
 z116 := Tryz.sizeOf98
 t117 := Tryz.underlying99
 a117 := Tryz.isAgg99
 z117 := Tryz.sizeOf99
 v117 := Tryz.zeroValue99
 t119 := Tryz.underlying136
 a119 := Tryz.isAgg136
 z119 := Tryz.sizeOf136
 t124 := Tryz.underlying102
 a124 := Tryz.isAgg102
 z124 := Tryz.sizeOf102
 v124 := Tryz.zeroValue102
 t138 := Tryz.underlying138
 a138 := Tryz.isAgg138
 z138 := Tryz.sizeOf138
 v138 := Tryz.zeroValue138
 t139 := Tryz.underlying139
 a139 := Tryz.isAgg139
 z139 := Tryz.sizeOf139
 v139 := Tryz.zeroValue139
 g3 := by kernel_rfl
 g4 := by kernel_rfl }
open Go.RowKit in
theorem Tryz.strings_TrimRight_one (s : ByteArray) (c : UInt8) (hc : c.toNat < 128) (w : World) (hs : s.size ≤ 9223372036854775807) :
  Calls Tryz.prog 55 #[.string s, .string ⟨#[c]⟩] w fun e w' => e = .returned (.string ⟨(Lib.trimRightB s.data.toList c).toArray⟩) ∧ w' = w := Any.strings_TrimRight_one Tryz.lays162 s c hc w hs
def Tryz.lays137_ren : Go.Shelf.Ren := ⟨fun | 137 => 104 | 217 => 124 | 266 => 142 | n => n, fun | 9 => 9 | 5 => 5 | 3 => 3 | n => n, fun | n => n⟩
theorem Tryz.lays137 : Go.Proofs.Lays.n137 Tryz.prog Tryz.lays137_ren := {
 mixed := by kernel_rfl
 f137 := Tryz.func104.trans (congrArg some (by kernel_rfl))
 f217 := Tryz.func124.trans (congrArg some (by kernel_rfl))
 f266 := Tryz.func142.trans (congrArg some (by kernel_rfl))
 t3 := Tryz.underlying3
 a3 := Tryz.isAgg3
 z3 := Tryz.sizeOf3
 v3 := Tryz.zeroValue3
 t5 := Tryz.underlying5
 a5 := Tryz.isAgg5
 z5 := Tryz.sizeOf5
 v5 := Tryz.zeroValue5
 t9 := Tryz.underlying9
 a9 := Tryz.isAgg9
 z9 := Tryz.sizeOf9
 v9 := Tryz.zeroValue9 }
open Go.RowKit in
theorem Tryz.strings_IndexByte (s : ByteArray) (c : Int) (w : World) :
  Calls Tryz.prog 104 #[.string s, .int .u8 c] w fun e w' => e = .returned (.int .i64 (Lib.indexByte s.data.toList c.toNat.toUInt8)) ∧ w' = w := Any.strings_IndexByte Tryz.lays137 s c w
def Tryz.lays99_ren : Go.Shelf.Ren := ⟨fun | 99 => 31 | 206 => 51 | n => n, fun | 9 => 9 | 4 => 4 | 3 => 3 | n => n, fun | n => n⟩
theorem Tryz.lays99 : Go.Proofs.Lays.n99 Tryz.prog Tryz.lays99_ren := {
 mixed := by kernel_rfl
 f99 := Tryz.func31.trans (congrArg some (by kernel_rfl))
 f206 := Tryz.func51.trans (congrArg some (by kernel_rfl))
 t3 := Tryz.underlying3
 a3 := Tryz.isAgg3
 z3 := Tryz.sizeOf3
 v3 := Tryz.zeroValue3
 t4 := Tryz.underlying4
 a4 := Tryz.isAgg4
 z4 := Tryz.sizeOf4
 v4 := Tryz.zeroValue4
 t9 := Tryz.underlying9
 a9 := Tryz.isAgg9
 z9 := Tryz.sizeOf9
 v9 := Tryz.zeroValue9 }
open Go.RowKit Go.Lib in
theorem Tryz.strings_HasPrefix (s p : ByteArray) (w : World) :
  Calls Tryz.prog 31 #[.string s, .string p] w fun e w' => e = .returned (.bool (Lib.hasPrefix s.data.toList p.data.toList)) ∧ w' = w := Any.strings_HasPrefix Tryz.lays99 s p w
end Go.Proofs
namespace Go.Proofs.YtecglpocmhkkiaaGreatDoor
section
open Go.RowKit
open Q6
theorem ret_b {a b : Bool} (h : a = b) : Ending.returned (.bool a) = .returned (.bool b) := by rw [h]
theorem ret_int {k : IntKind} {a b : Int} (h : a = b) : Ending.returned (.int k a) = .returned (.int k b) := by rw [h]
theorem ret_s {a b : ByteArray} (h : a = b) : Ending.returned (.string a) = .returned (.string b) := by rw [h]
theorem len_eq (s : ByteArray) : s.data.toList.length = s.size := rfl
theorem isC_beq (k c : UInt8) (x : Int) (h : (k.toNat : Int) = x) : ((c.toNat : Int) == x) = isC k c := by
 subst h
 unfold isC
 rw [Bool.eq_iff_iff]
 simp only [beq_iff_eq, decide_eq_true_eq]
 constructor
 ·intro h; apply UInt8.toNat_inj.1; omega
 ·intro h; rw [h]
theorem isC_bne (k c : UInt8) (x : Int) (h : (k.toNat : Int) = x) : ((c.toNat : Int) != x) = !isC k c := by
 show (!((c.toNat : Int) == x)) = _
 rw [isC_beq k c x h]
theorem isC_ne {k j c : UInt8} (h : isC k c = true) (hkj : k ≠ j) : isC j c = false := by
 rw [Bool.eq_false_iff]; intro e
 exact hkj ((isC_iff.1 h).symm.trans (isC_iff.1 e))
theorem printable_any (c : UInt8) (w : World) : Calls Tryz.prog 77 #[.int .u8 c.toNat] w fun e w' => e = .returned (.bool (good c)) ∧ w = w' := by
 by_cases h1 : (32 : Int) ≤ (c.toNat : Int)
 ·rcases Bool.eq_false_or_eq_true (isC 127 c) with h2 | h2
  all_goals
   have H : Hid (good c = !isC 127 c) := hid (by
    unfold good isC
    rw [decide_eq_true (by omega : 32 ≤ c.toNat), Bool.true_and, ← decide_not, decide_eq_decide]
    exact ⟨fun e e2 => e (by rw [e2]; rfl), fun e e2 => e (UInt8.toNat_inj.1 e2)⟩)
   have m := isC_bne 127 c 127 rfl
   rw [h2] at m H
   go_enter Tryz.func77, Tryz.ntmps77
   go_wp2
   all_goals (go_ret; exact ⟨ret_b H.out.symm, rfl⟩)
 ·have H : Hid (good c = false) := hid (by unfold good; rw [decide_eq_false (by omega : ¬ 32 ≤ c.toNat)]; rfl)
  go_enter Tryz.func77, Tryz.ntmps77
  go_wp2
  go_ret
  exact ⟨ret_b H.out.symm, rfl⟩
theorem contains_any (s : ByteArray) (l : List UInt8) (hl : s.data.toList = l) (c : UInt8) (w : World) :
  Calls Tryz.prog 76 #[.string s, .int .u8 c.toNat] w fun e w' => e = .returned (.bool (has l c)) ∧ w = w' := by
 subst hl
 have H := hid (index_has s.data.toList c)
 have hc : ((c.toNat : Int)).toNat.toUInt8 = c := by simp
 have hI := Tryz.strings_IndexByte s (c.toNat : Int)
 rw [hc] at hI
 generalize Lib.indexByte s.data.toList c = x at *
 clear hc
 go_enter Tryz.func76, Tryz.ntmps76
 go_wp2_with (go_at_call 104; refine (hI _).mono ?_; rintro e w' ⟨rfl, hw⟩; subst hw)
 go_ret
 exact ⟨ret_b H.out, rfl⟩
theorem has_row (c : UInt8) (w : World) : Calls Tryz.prog 76 #[.string ⟨#[44, 91, 93, 123, 125]⟩, .int .u8 c.toNat] w fun e w' => e = .returned (.bool (has marks c)) ∧ w = w' := contains_any _ _ rfl c w
theorem has_first (c : UInt8) (w : World) : Calls Tryz.prog 76 #[.string ⟨#[44, 91, 93, 123, 125, 63, 58, 35, 38, 42, 33, 124, 62, 39, 34, 37, 64, 96]⟩, .int .u8 c.toNat] w fun e w' => e = .returned (.bool (has firsts c)) ∧ w = w' := contains_any _ _ rfl c w
theorem row1_any (b c a : UInt8) (w : World) : Calls Tryz.prog 155 #[.int .u8 b.toNat, .int .u8 c.toNat, .int .u8 a.toNat] w fun e w' => e = .returned (.bool (rowF b c a)) ∧ w = w' := by
 have H : Hid (rowF b c a = !has marks c) := hid rfl
 go_enter Tryz.func155, Tryz.ntmps155
 go_wp2_with (go_at_call 76; refine (has_row _ _).mono ?_; rintro e w' ⟨rfl, rfl⟩)
 go_ret
 exact ⟨ret_b H.out.symm, rfl⟩
theorem single1_any (b c a : UInt8) (w : World) : Calls Tryz.prog 111 #[.int .u8 b.toNat, .int .u8 c.toNat, .int .u8 a.toNat] w fun e w' => e = .returned (.bool (goodF b c a)) ∧ w = w' := by
 have H : Hid (goodF b c a = good c) := hid rfl
 go_enter Tryz.func111, Tryz.ntmps111
 go_wp2_with (go_at_call 77; refine (printable_any _ _).mono ?_; rintro e w' ⟨rfl, rfl⟩)
 go_ret
 exact ⟨ret_b H.out.symm, rfl⟩
end
section
open Go.RowKit
open Q6
def Tells3 (g : Nat) (F : UInt8 → UInt8 → UInt8 → Bool) : Prop :=
 (∀ args w, (callFunc g args).run Tryz.prog w = .ok (.enter g args) w) ∧
 ∀ (b c a : UInt8) (w : World), Calls Tryz.prog g #[.int .u8 b.toNat, .int .u8 c.toNat, .int .u8 a.toNat] w fun e w' => e = .returned (.bool (F b c a)) ∧ w = w'
theorem getd (s : ByteArray) (k : Nat) (h : k < s.size) : s.data.toList.getD k 0 = s[k] := by
 rw [List.getD_eq_getElem?_getD, List.getElem?_eq_getElem (by rw [len_eq]; exact h)]; rfl
theorem bef_succ (l : List UInt8) (k : Nat) : bef l (k + 1) = l.getD k 0 := by unfold bef; rw [if_neg (by omega)]; rfl
theorem aft_in {l : List UInt8} {k : Nat} (h : k + 1 < l.length) : aft l k = l.getD (k + 1) 0 := by unfold aft; rw [if_pos h]
theorem aft_out {l : List UInt8} {k : Nat} (h : ¬ k + 1 < l.length) : aft l k = 10 := by unfold aft; rw [if_neg h]
theorem every_any (s : ByteArray) (g : Nat) (F : UInt8 → UInt8 → UInt8 → Bool) (w : World) (hs : s.size ≤ maxLen) (T : Tells3 g F) :
  Calls Tryz.prog 74 #[.string s, .func (.func g) #[] #[]] w fun e w' => e = .returned (.bool (everyB F s.data.toList)) ∧ w = w' := by
 unfold maxLen at hs
 obtain ⟨e1, t1⟩ := T
 have T1 : Hid (∀ (b c a : UInt8) (w : World), Calls Tryz.prog g #[.int .u8 b.toNat, .int .u8 c.toNat, .int .u8 a.toNat] w fun e w' => e = .returned (.bool (F b c a)) ∧ w = w') := hid t1
 clear t1
 have hlen : s.data.toList.length = s.size := len_eq s
 have HL := hid hlen
 clear hlen
 go_enter Tryz.func74, Tryz.ntmps74
 go_wp2
 go_loop [5, 10] (fun b i => ∃ k : Nat, k ≤ s.size ∧ i = .int .i64 k ∧ b = .int .u8 ((bef s.data.toList k).toNat : Int) ∧ ∀ j, j < k → okI F s.data.toList j = true) (fun _ i => s.size - (intOf i).toNat)
 case atStart => exact ⟨0, Nat.zero_le _, rfl, rfl, fun j h => absurd h (Nat.not_lt_zero _)⟩
 case round =>
  obtain ⟨k, hk, rfl, rfl, hall⟩ := hrel
  have HA := hid hall; clear hall
  by_cases hlt : k < s.size
  ·have HX := hid (getd s k hlt)
   have HBS := hid (bef_succ s.data.toList k)
   have HO : Hid (okI F s.data.toList k = F (bef s.data.toList k) (s.data.toList.getD k 0) (aft s.data.toList k)) := hid rfl
   by_cases hnx : k + 1 < s.size
   ·have HY := hid ((aft_in (l := s.data.toList) (k := k) (by rw [HL.out]; exact hnx)).trans (getd s (k + 1) hnx))
    have hcall := T1.out (bef s.data.toList k) s[k] s[k + 1]
    have hnxz : (k : Int) + 1 < (s.size : Int) := by omega
    have hF : F (bef s.data.toList k) s[k] s[k + 1] = okI F s.data.toList k := by rw [HO.out, HX.out, HY.out]
    rw [hF] at hcall
    clear hF
    generalize bef s.data.toList k = bb at *
    rcases Bool.eq_false_or_eq_true (okI F s.data.toList k) with h3 | h3
    ·rw [h3] at hcall
     have HB := hid h3; clear h3
     go_wp2_with (go_at_fn g; refine (hcall _).mono ?_; rintro e w' ⟨rfl, rfl⟩)
     go_round
     case rel =>
      refine ⟨k + 1, by omega, by go_num, by rw [HBS.out, HX.out], fun j hj => ?_⟩
      rcases Nat.lt_succ_iff_lt_or_eq.1 hj with h | rfl
      ·exact HA.out j h
      ·exact HB.out
     case measure => simp [intOf]; omega
    ·rw [h3] at hcall
     have HB := hid h3; clear h3
     go_wp2_with (go_at_fn g; refine (hcall _).mono ?_; rintro e w' ⟨rfl, rfl⟩)
     go_ret
     exact ⟨ret_b (every_no (i := k) (by rw [HL.out]; exact hlt) HB.out).symm, rfl⟩
   ·have HY := hid (aft_out (l := s.data.toList) (k := k) (by rw [HL.out]; exact hnx))
    have hcall := T1.out (bef s.data.toList k) s[k] 10
    have h10 : ((10 : UInt8).toNat : Int) = 10 := rfl
    rw [h10] at hcall
    clear h10
    have hnxz : ¬ (k : Int) + 1 < (s.size : Int) := by omega
    have hF : F (bef s.data.toList k) s[k] 10 = okI F s.data.toList k := by rw [HO.out, HX.out, HY.out]
    rw [hF] at hcall
    clear hF
    generalize bef s.data.toList k = bb at *
    rcases Bool.eq_false_or_eq_true (okI F s.data.toList k) with h3 | h3
    ·rw [h3] at hcall
     have HB := hid h3; clear h3
     go_wp2_with (go_at_fn g; refine (hcall _).mono ?_; rintro e w' ⟨rfl, rfl⟩)
     go_round
     case rel =>
      refine ⟨k + 1, by omega, by go_num, by rw [HBS.out, HX.out], fun j hj => ?_⟩
      rcases Nat.lt_succ_iff_lt_or_eq.1 hj with h | rfl
      ·exact HA.out j h
      ·exact HB.out
     case measure => simp [intOf]; omega
    ·rw [h3] at hcall
     have HB := hid h3; clear h3
     go_wp2_with (go_at_fn g; refine (hcall _).mono ?_; rintro e w' ⟨rfl, rfl⟩)
     go_ret
     exact ⟨ret_b (every_no (i := k) (by rw [HL.out]; exact hlt) HB.out).symm, rfl⟩
  ·go_wp2
   go_ret
   obtain rfl : k = s.size := by omega
   exact ⟨ret_b (every_yes (fun i hi => HA.out i (by rw [HL.out] at hi; exact hi))).symm, rfl⟩
end
end Go.Proofs.YtecglpocmhkkiaaGreatDoor
