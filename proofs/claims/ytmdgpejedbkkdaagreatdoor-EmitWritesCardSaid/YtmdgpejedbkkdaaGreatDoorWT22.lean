/- ShelfE, EmiAny, EmiSca, EmiLeaf, EmiOne -/
import Derived.BigQuiet
import Derived.Deep.LoopGhost
import Derived.Laws.Cover4
import Derived.Laws.RangeAny
import Derived.Laws.Runes
import Derived.Lib.OthersKept
import Derived.LoopN
import Derived.Maps.AppendAt
import Derived.ProofKit
import Derived.Shelf.Lay
import Derived.Shelf.Strings.IndexAnyAll
import Derived.Test.YtmdgpejedbkkdaaGreatDoorProg
import Derived.Test.YtmdgpejedbkkdaaGreatDoorWT11
import Derived.Test.YtmdgpejedbkkdaaGreatDoorWT13
import Derived.Test.YtmdgpejedbkkdaaGreatDoorWT21
import Derived.Test.YtmdgpejedbkkdaaGreatDoorWT3
import Derived.Test.YtmdgpejedbkkdaaGreatDoorWT4
import Derived.Test.YtmdgpejedbkkdaaGreatDoorWT9
set_option linter.unusedVariables false
set_option linter.unusedSimpArgs false
set_option maxRecDepth 100000
set_option maxHeartbeats 16000000
open Go.Lib (hid)
namespace Go.Proofs
open Go.Shelf
def Tryz.lays152_ren : Go.Shelf.Ren := ⟨fun | 152 => 62 | 137 => 61 | 119 => 86 | 224 => 87 | 225 => 88 | 217 => 85 | 266 => 116 | n => n, fun | 9 => 9 | 21 => 21 | 3 => 3 | 4 => 4 | 5 => 5 | 0 => 0 | 46 => 91 | n => n, fun | n => n⟩
theorem Tryz.lays152 : Go.Proofs.Lays.n152 Tryz.prog Tryz.lays152_ren := {
 mixed := by kernel_rfl
 f119 := Tryz.func86.trans (congrArg some (by kernel_rfl))
 f137 := Tryz.func61.trans (congrArg some (by kernel_rfl))
 f152 := Tryz.func62.trans (congrArg some (by kernel_rfl))
 f217 := Tryz.func85.trans (congrArg some (by kernel_rfl))
 f224 := Tryz.func87.trans (congrArg some (by kernel_rfl))
 f225 := Tryz.func88.trans (congrArg some (by kernel_rfl))
 f266 := Tryz.func116.trans (congrArg some (by kernel_rfl))
 t0 := Tryz.underlying0
 a0 := Tryz.isAgg0
 z0 := Tryz.sizeOf0
 v0 := Tryz.zeroValue0
 t3 := Tryz.underlying3
 a3 := Tryz.isAgg3
 z3 := Tryz.sizeOf3
 v3 := Tryz.zeroValue3
 t4 := Tryz.underlying4
 a4 := Tryz.isAgg4
 z4 := Tryz.sizeOf4
 v4 := Tryz.zeroValue4
 t5 := Tryz.underlying5
 a5 := Tryz.isAgg5
 z5 := Tryz.sizeOf5
 v5 := Tryz.zeroValue5
 t9 := Tryz.underlying9
 a9 := Tryz.isAgg9
 z9 := Tryz.sizeOf9
 v9 := Tryz.zeroValue9
 t21 := Tryz.underlying21
 a21 := Tryz.isAgg21
 z21 := Tryz.sizeOf21
 v21 := Tryz.zeroValue21
 t46 := Tryz.underlying91
 a46 := Tryz.isAgg91
 z46 := Tryz.sizeOf91
 v46 := Tryz.zeroValue91 }
open Go.RowKit Go.Lib in
theorem Tryz.strings_IndexRune_ascii (s : ByteArray) (r : Int) (w : World) (h0 : 0 ≤ r) (h1 : r < 128) :
  Calls Tryz.prog 62 #[.string s, .int .i32 r] w fun e w' => e = .returned (.int .i64 (Lib.indexByte s.data.toList r.toNat.toUInt8)) ∧ w' = w := Any.strings_IndexRune_ascii Tryz.lays152 s r w h0 h1
def Tryz.lays226_ren : Go.Shelf.Ren := ⟨fun | 226 => 63 | n => n, fun | 3 => 3 | 4 => 4 | n => n, fun | n => n⟩
theorem Tryz.lays226 : Go.Proofs.Lays.n226 Tryz.prog Tryz.lays226_ren := {
 mixed := by kernel_rfl
 f226 := Tryz.func63.trans (congrArg some (by kernel_rfl))
 t3 := Tryz.underlying3
 a3 := Tryz.isAgg3
 z3 := Tryz.sizeOf3
 v3 := Tryz.zeroValue3
 t4 := Tryz.underlying4
 a4 := Tryz.isAgg4
 z4 := Tryz.sizeOf4
 v4 := Tryz.zeroValue4 }
open Go.RowKit Go.Lib in
theorem Tryz.strings_shouldUseASCIISet (n : Int) (w : World) :
  Calls Tryz.prog 63 #[.int .i64 n] w fun e w' => e = .returned (.bool (decide (8 < n))) ∧ w' = w := Any.strings_shouldUseASCIISet Tryz.lays226 n w
def Tryz.lays153_ren : Go.Shelf.Ren := ⟨fun | 153 => 44 | 152 => 62 | 226 => 63 | 227 => 64 | 228 => 65 | 137 => 61 | 119 => 86 | 224 => 87 | 225 => 88 | 217 => 85 | 266 => 116 | n => n, fun | 9 => 9 | 3 => 3 | 4 => 4 | 5 => 5 | 21 => 21 | 117 => 89 | 116 => 88 | 0 => 0 | 46 => 91 | 124 => 106 | n => n, fun | n => n⟩
theorem Tryz.lays153 : Go.Proofs.Lays.n153 Tryz.prog Tryz.lays153_ren := {
 mixed := by kernel_rfl
 f119 := Tryz.func86.trans (congrArg some (by kernel_rfl))
 f137 := Tryz.func61.trans (congrArg some (by kernel_rfl))
 f152 := Tryz.func62.trans (congrArg some (by kernel_rfl))
 f153 := Tryz.func44.trans (congrArg some (by kernel_rfl))
 f217 := Tryz.func85.trans (congrArg some (by kernel_rfl))
 f224 := Tryz.func87.trans (congrArg some (by kernel_rfl))
 f225 := Tryz.func88.trans (congrArg some (by kernel_rfl))
 f226 := Tryz.func63.trans (congrArg some (by kernel_rfl))
 f227 := Tryz.func64.trans (congrArg some (by kernel_rfl))
 f228 := Tryz.func65.trans (congrArg some (by kernel_rfl))
 f266 := Tryz.func116.trans (congrArg some (by kernel_rfl))
 t0 := Tryz.underlying0
 a0 := Tryz.isAgg0
 z0 := Tryz.sizeOf0
 v0 := Tryz.zeroValue0
 t3 := Tryz.underlying3
 a3 := Tryz.isAgg3
 z3 := Tryz.sizeOf3
 v3 := Tryz.zeroValue3
 t4 := Tryz.underlying4
 a4 := Tryz.isAgg4
 z4 := Tryz.sizeOf4
 v4 := Tryz.zeroValue4
 t5 := Tryz.underlying5
 a5 := Tryz.isAgg5
 z5 := Tryz.sizeOf5
 v5 := Tryz.zeroValue5
 t9 := Tryz.underlying9
 a9 := Tryz.isAgg9
 z9 := Tryz.sizeOf9
 v9 := Tryz.zeroValue9
 t21 := Tryz.underlying21
 a21 := Tryz.isAgg21
 z21 := Tryz.sizeOf21
 v21 := Tryz.zeroValue21
 t46 := Tryz.underlying91
 a46 := Tryz.isAgg91
 z46 := Tryz.sizeOf91
 v46 := Tryz.zeroValue91
 t116 := Tryz.underlying88
 a116 := Tryz.isAgg88
 z116 := Tryz.sizeOf88
 t117 := Tryz.underlying89
 a117 := Tryz.isAgg89
 z117 := Tryz.sizeOf89
 v117 := Tryz.zeroValue89
 t124 := Tryz.underlying106
 a124 := Tryz.isAgg106
 z124 := Tryz.sizeOf106
 v124 := Tryz.zeroValue106 }
open Go.RowKit Go.Lib in
theorem Tryz.strings_IndexAny_long (hv116 : ∀ w, (zeroValue 88).run Tryz.prog w = .ok (.agg (Array.replicate 256 (.bool false))) w) (s chars : ByteArray) (w : World) (h2 : 2 ≤ chars.size) (h8 : 8 < s.size) (hs : s.size < 4294967281) (hcs : chars.size < 4294967281) (hascii : ∀ (j : Nat) b, chars.data.toList[j]? = some b → b.toNat < 128) :
  Calls Tryz.prog 44 #[.string s, .string chars] w fun e w' => e = .returned (.int .i64 (Lib.indexAny s.data.toList chars.data.toList)) ∧ w' = ((w.alloc (.cells (Lib.setCells chars.data.toList) 88)).alloc (.cells (Lib.setCells chars.data.toList) 88)) := Any.strings_IndexAny_long Tryz.lays153 hv116 (by kernel_rfl) s chars w h2 h8 hs hcs hascii
end Go.Proofs
namespace Go.Proofs.YtmdgpejedbkkdaaGreatDoor
section
open Go.RowKit
open Nw N8 Q6 F9 B10 E11
theorem enc_facts (r : Nat) (h : 128 ≤ r) : ∃ n : Nat, (Utf8.encode (r : Int)).size = n ∧ 2 ≤ n ∧ n ≤ 4 ∧ (n = 2 → ∃ (a b : UInt8), 128 ≤ b.toNat ∧ Utf8.encode (r : Int) = ⟨#[a, b]⟩) := by
 unfold Utf8.encode
 simp only
 by_cases hv : Utf8.valid (r : Int) = true
 ·simp only [hv, if_true, Int.toNat_natCast]
  rw [if_neg (by omega)]
  by_cases h1 : r < 2048
  ·rw [if_pos h1]
   refine ⟨2, rfl, by omega, by omega, fun _ => ⟨_, _, ?_, rfl⟩⟩
   rw [UInt8.toNat_ofNat']
   omega
  ·rw [if_neg h1]
   by_cases h2 : r < 65536
   ·rw [if_pos h2]; exact ⟨3, rfl, by omega, by omega, fun e => by cases e⟩
   ·rw [if_neg h2]; exact ⟨4, rfl, by omega, by omega, fun e => by cases e⟩
 ·have : Utf8.valid (r : Int) = false := Bool.eq_false_iff.2 hv
  simp only [this, Bool.false_eq_true, if_false, Utf8.runeError]
  exact ⟨3, rfl, by omega, by omega, fun e => by cases e⟩
theorem ValidRune_q (r : Nat) (w : World) : Calls Tryz.prog 86 #[.int .i32 (r : Int)] w fun e w' => (e = .returned (.bool true) ∨ e = .returned (.bool false)) ∧ w' = w := by
 have k0 : decide ((0 : Int) ≤ (r : Int)) = true := decide_eq_true (by omega)
 by_cases h1 : (r : Int) < 55296
 ·go_enter Tryz.func86, Tryz.ntmps86
  go_wp2
  go_ret
  exact ⟨.inl rfl, rfl⟩
 ·have k1 : decide ((r : Int) < 55296) = false := decide_eq_false h1
  by_cases h2 : 57343 < (r : Int)
  ·by_cases h3 : (r : Int) ≤ 1114111
   ·go_enter Tryz.func86, Tryz.ntmps86
    go_wp2
    go_ret
    exact ⟨.inl rfl, rfl⟩
   ·have k3 : decide ((r : Int) ≤ 1114111) = false := decide_eq_false h3
    go_enter Tryz.func86, Tryz.ntmps86
    go_wp2
    go_ret
    exact ⟨.inr rfl, rfl⟩
  ·have k2 : decide (57343 < (r : Int)) = false := decide_eq_false h2
   go_enter Tryz.func86, Tryz.ntmps86
   go_wp2
   go_ret
   exact ⟨.inr rfl, rfl⟩
theorem drewN_q (w : World) (n : Nat) : Below w.heap.size w (w.drewN n) := ⟨rfl, rfl, rfl, Nat.le_refl _, fun _ _ => rfl⟩
theorem IndexRune_q (Q : ByteArray) (hz : Q.size = 2) (q0 : (Q[0]'(by omega)).toNat = 34) (q1 : (Q[1]'(by omega)).toNat = 39) (r : Nat) (h1 : 128 ≤ r) (h2 : r ≤ 2147483647) (w : World) :
  Calls Tryz.prog 62 #[.string Q, .int .i32 (r : Int)] w fun e w' => e = .returned (.int .i64 (-1)) ∧ Below w.heap.size w w' := by
 have k0 : decide ((0 : Int) ≤ (r : Int)) = true := decide_eq_true (by omega)
 have k1 : decide ((r : Int) < 128) = false := decide_eq_false (by omega)
 by_cases h3 : r = 65533
 ·subst h3
  have n0 := fun ty => run_next_ascii (P := Tryz.prog) w Q 0 ty (by omega) (by rw [q0]; decide)
  have n1 := fun ty => run_next_ascii (P := Tryz.prog) w Q 1 ty (by omega) (by rw [q1]; decide)
  have n2 := fun ty => run_next_end (P := Tryz.prog) w Q 2 ty (by omega)
  simp only [q0] at n0
  simp only [q1] at n1
  clear q0 q1
  go_enter Tryz.func62, Tryz.ntmps62
  go_wp2
  go_loopw [5, 6] (fun _ _ wr => wr = w.iter Q 0 ∨ wr = w.iter Q 1 ∨ wr = w.iter Q 2) (fun _ _ wr => 3 - wr.iterPos w.heap.size)
  case atStart => exact .inl rfl
  case round =>
   rcases hrel with rfl | rfl | rfl
   ·go_wp2
    go_roundw
    case rel => first | exact .inr (.inl rfl) | simp
    case measure => simp
   ·go_wp2
    go_roundw
    case rel => first | exact .inr (.inr rfl) | simp
    case measure => simp
   ·go_wp2
    go_ret
    exact ⟨rfl, (Below.refl _ _).alloc (Nat.le_refl _) _⟩
 ·have k3 : ((r : Int) == 65533) = false := beq_eq_false_iff_ne.2 (by omega)
  obtain ⟨n, hn, hn2, hn4, hb⟩ := enc_facts r h1
  have HV := hid (fun W => ValidRune_q r W)
  obtain ⟨E, hE⟩ : ∃ E, Utf8.encode (r : Int) = E := ⟨_, rfl⟩
  rw [hE] at hn hb
  by_cases h4 : n = 2
  ·subst h4
   obtain ⟨c, hc, h128⟩ : ∃ c : Nat, (E[1]'(by omega)).toNat = c ∧ 128 ≤ c := by
    obtain ⟨a, b, hb1, hE2⟩ := hb rfl
    subst hE2
    exact ⟨_, rfl, hb1⟩
   have hne : ((39 : Int) != (c : Int)) = true := by
    rw [bne_iff_ne]; omega
   have hne2 : ((39 : Int) == (c : Int)) = false := beq_eq_false_iff_ne.2 (by omega)
   have HIB : Hid (∀ (W : World) (a b : Nat), Calls Tryz.prog 61 #[.string ByteArray.empty, .int .u8 (c : Int)] (W.drewN (a + b)) fun e w'' => e = .returned (.int .i64 (-1)) ∧ ∃ n, w'' = W.drewN (a + n)) :=
    hid (fun W a b => (Tryz.strings_IndexByte ByteArray.empty (c : Int) (W.drewN (a + b))).mono fun e w'' ⟨h1, h2⟩ => ⟨h1, b, h2⟩)
   clear hb hn2 hn4 q0 h128
   go_enter Tryz.func62, Tryz.ntmps62
   go_wp2_with (go_at_call 86; refine (HV.out _).mono ?_; rintro e w1 ⟨rfl | rfl, rfl⟩)
   ·go_step3
    go_wp2
    rename_i K0 hK0
    have HK0 := hid hK0
    clear hK0
    go_loopw [9] (fun i wr => i = .int .i64 1 ∧ wr = w1) (fun _ _ => 0)
    case atStart => exact ⟨rfl, rfl⟩
    case round =>
     obtain ⟨rfl, rfl⟩ := hrel
     go_wp2
     go_step3
     go_wp2
     go_quiet (fail)
     go_wp2
     go_quiet (first | (go_at_call 61; exact HIB.out _ _ _))
     go_wp2
     simp (config := { zetaDelta := true }) only [Exit.noGoto, Exit.inBlock, Exit.then]
     go_ret
     first | exact ⟨rfl, Below.refl _ _⟩ | exact ⟨rfl, drewN_q _ _⟩
   ·go_ret
    exact ⟨rfl, Below.refl _ _⟩
  ·obtain ⟨m, rfl⟩ : ∃ m, n = m + 1 := ⟨n - 1, by omega⟩
   obtain ⟨M, hM⟩ : ∃ M : Int, (m : Int) = M := ⟨_, rfl⟩
   have hM2 : decide (M < 2) = false := decide_eq_false (by omega)
   have hM3 : 0 ≤ M ∧ M < 5 := by omega
   obtain ⟨N, hN⟩ : ∃ N : Int, ((E.size : Nat) : Int) = N := ⟨_, rfl⟩
   have hw : IntKind.i64.wrap (N - 1) = M := by
    rw [show N - 1 = M by omega]; exact wrap_small _ (by omega) (by omega)
   clear hb hn2 hn4 h4 q0 q1 hM hM3 hn
   go_enter Tryz.func62, Tryz.ntmps62
   go_wp2_with (go_at_call 86; refine (HV.out _).mono ?_; rintro e w1 ⟨rfl | rfl, rfl⟩)
   ·go_step3
    go_wp2
    rename_i K0 hK0
    have HK0 := hid hK0
    clear hK0
    go_loopw [9] (fun i wr => i = .int .i64 M ∧ wr = w1) (fun _ _ => 0)
    case atStart => exact ⟨rfl, rfl⟩
    case round =>
     obtain ⟨rfl, rfl⟩ := hrel
     go_wp2
     refine HK0.out _ _ ?_
     go_wp2
     simp (config := { zetaDelta := true }) only [Exit.noGoto, Exit.inBlock, Exit.then]
     go_ret
     first | exact ⟨rfl, Below.refl _ _⟩ | exact ⟨rfl, drewN_q _ _⟩
   ·go_ret
    exact ⟨rfl, Below.refl _ _⟩
theorem decode_skip (s : ByteArray) (k : Nat) (h : k < s.size) (ha : 128 ≤ (s[k]'h).toNat) : ∀ j, j < (Utf8.decode s k).2 → k + j < s.size ∧ 128 ≤ (s.get! (k + j)).toNat := by
 have hn : ¬ (s[k]'h).toNat < 128 := by omega
 have h0 : (s.get! (k + 0)).toNat = (s[k]'h).toNat := by rw [get_at s k h]
 have hb : ∀ j, j = 0 → k + j < s.size ∧ 128 ≤ (s.get! (k + j)).toNat := fun j e => by subst e; rw [h0]; exact ⟨h, ha⟩
 have hc : ∀ j, (decide (k + j < s.size) && (s.get! (k + j)).toNat / 64 == 2) = true → k + j < s.size ∧ 128 ≤ (s.get! (k + j)).toNat := fun j e => by
  rw [Bool.and_eq_true, beq_iff_eq] at e
  exact ⟨of_decide_eq_true e.1, by omega⟩
 intro j
 simp only [Utf8.decode, h0, hn, if_false]
 split
 ·rename_i h1
  rw [Bool.and_eq_true] at h1
  split
  ·intro hj
   have : j = 0 ∨ j = 1 := by omega
   rcases this with rfl | rfl
   ·exact hb 0 rfl
   ·exact hc 1 h1.2
  ·intro hj; exact hb j (by omega)
 ·split
  ·rename_i h1
   rw [Bool.and_eq_true, Bool.and_eq_true] at h1
   split
   ·intro hj
    have : j = 0 ∨ j = 1 ∨ j = 2 := by omega
    rcases this with rfl | rfl | rfl
    ·exact hb 0 rfl
    ·exact hc 1 h1.1.2
    ·exact hc 2 h1.2
   ·intro hj; exact hb j (by omega)
  ·split
   ·rename_i h1
    rw [Bool.and_eq_true, Bool.and_eq_true, Bool.and_eq_true] at h1
    split
    ·intro hj
     have : j = 0 ∨ j = 1 ∨ j = 2 ∨ j = 3 := by omega
     rcases this with rfl | rfl | rfl | rfl
     ·exact hb 0 rfl
     ·exact hc 1 h1.1.1.2
     ·exact hc 2 h1.1.2
     ·exact hc 3 h1.2
    ·intro hj; exact hb j (by omega)
   ·intro hj; exact hb j (by omega)
theorem get_data (s : ByteArray) (k : Nat) (h : k < s.size) : s.data.toList[k]? = some (s.get! k) := by
 rw [Lib.data_getElem? s k h]
 congr 1
 exact (get_at s k h).symm
end
section
open Go.RowKit
open Nw N8 Q6 F9 B10 E11
theorem isq_contains (c : UInt8) : ([34, 39] : List UInt8).contains c = isQ c := by
 unfold isQ
 by_cases h1 : c = 34
 ·subst h1; rfl
 ·by_cases h2 : c = 39
  ·subst h2; rfl
  ·rw [decide_eq_false h1, decide_eq_false h2]; simp [h1, h2]
theorem any_noq : ∀ l : L8, decide (0 ≤ Lib.indexAny l [34, 39]) = !noq l
 | [] => rfl
 | b :: l => by
  have ih := any_noq l
  have hge := Lib.indexAny_ge [34, 39] l
  unfold Lib.indexAny noq
  rw [isq_contains, List.all_cons]
  cases isQ b
  ·rw [if_neg (by decide)]
   show _ = !(true && noq l)
   rw [Bool.true_and, ← ih]
   by_cases h : Lib.indexAny l [34, 39] = -1
   ·rw [if_pos (by rw [h]; rfl), h]
   ·rw [if_neg (by simpa using h), decide_eq_decide]; omega
  ·rfl
def AnyQ (s : ByteArray) (w : World) (e : Ending) (w' : World) : Prop := ∃ i : Int, e = .returned (.int .i64 i) ∧ decide (0 ≤ i) = !noq s.data.toList ∧ Below w.heap.size w w'
theorem below_iter (w : World) (s : ByteArray) (k : Nat) : Below w.heap.size w (w.iter s k) := (Below.refl _ _).alloc (Nat.le_refl _) _
theorem noq_all {s : ByteArray} {k d : Nat} (h : noq (s.data.toList.take k) = true) (hd : ∀ j, j < d → k + j < s.size ∧ 128 ≤ (s.get! (k + j)).toNat) : noq (s.data.toList.take (k + d)) = true := by
 induction d with
 | zero => exact h
 | succ d ih =>
  obtain ⟨h1, h2⟩ := hd d (by omega)
  have h3 := ih fun j hj => hd j (by omega)
  have hl : k + d < s.data.toList.length := by rw [len_eq]; exact h1
  rw [show k + (d + 1) = (k + d) + 1 by omega, noq_step hl, h3, Bool.true_and]
  have hg : s.data.toList.getD (k + d) 0 = s.get! (k + d) := by rw [List.getD_eq_getElem?_getD, get_data s _ h1]; rfl
  rw [hg]
  unfold isQ
  rw [decide_eq_false (by intro e; rw [e] at h2; exact absurd h2 (by decide)), decide_eq_false (by intro e; rw [e] at h2; exact absurd h2 (by decide))]
  rfl
theorem noq_hit {s : ByteArray} {k : Nat} (hk : k < s.data.toList.length) (h : isQ (s.data.toList.getD k 0) = true) : noq s.data.toList = false := by
 rw [Bool.eq_false_iff]
 intro e
 have := List.all_eq_true.1 e _ (List.getElem_mem hk)
 rw [show s.data.toList[k] = s.data.toList.getD k 0 by rw [List.getD_eq_getElem?_getD, List.getElem?_eq_getElem hk]; rfl, h] at this
 cases this
theorem idx_hit (x : UInt8) : decide ((0 : Int) ≤ Lib.indexByte [34, 39] x) = isQ x := by
 have h := Lib.contains_iff_indexByte [34, 39] x
 rw [isq_contains] at h
 exact h.symm
theorem IndexAny_short (Q : ByteArray) (hQ : Q.data.toList = [34, 39]) (s : ByteArray) (w : World) (h8 : s.size ≤ 8) :
  Calls Tryz.prog 44 #[.string s, .string Q] w (AnyQ s w) := by
 have hz : Q.size = 2 := by rw [← len_eq, hQ]; rfl
 have q0 : (Q[0]'(by omega)).toNat = 34 := by
  have := Lib.data_getElem? Q 0 (by omega); rw [hQ] at this; injection this with this; rw [← this]; rfl
 have q1 : (Q[1]'(by omega)).toNat = 39 := by
  have := Lib.data_getElem? Q 1 (by omega); rw [hQ] at this; injection this with this; rw [← this]; rfl
 have HA := hid (fun r h0 h1 W => Tryz.strings_IndexRune_ascii Q r W h0 h1)
 rw [hQ] at HA
 have HR := hid (fun r h1 h2 W => IndexRune_q Q hz q0 q1 r h1 h2 W)
 have HS := hid (fun n W => Tryz.strings_shouldUseASCIISet n W)
 have hemp : Q.toList.isEmpty = false := by rw [Lib.toList_data, hQ]; rfl
 have hn1 : ((2 : Int) == 1) = false := by decide
 have h8z : decide ((8 : Int) < (s.size : Int)) = false := decide_eq_false (by omega)
 obtain ⟨n, hn⟩ : ∃ n, s.size = n := ⟨_, rfl⟩
 have HN := hid hn
 have hdl : s.data.toList.length = n := by rw [len_eq, hn]
 have HDL := hid hdl
 clear q0 q1 hdl hQ
 rw [hn] at h8z
 go_enter Tryz.func44, Tryz.ntmps44
 go_wp2_with (go_at_call 63; refine (HS.out _ _).mono ?_; rintro e w1 ⟨rfl, rfl⟩)
 have hst : (w1.iter s 0).heap[w1.heap.size]? = some (.stringIter s 0) := World.iter_heap w1 s 0
 have hbl : Below w1.heap.size w1 (w1.iter s 0) := below_iter _ _ _
 generalize w1.iter s 0 = W0 at hst hbl ⊢
 have HST := hid hst
 have HBL := hid hbl
 clear hst hbl
 go_loopw [9, 10] (fun _ _ wr => ∃ k : Nat, k ≤ n ∧ wr.heap[w1.heap.size]? = some (.stringIter s k) ∧ Hid (Below w1.heap.size w1 wr) ∧ Hid (noq (s.data.toList.take k) = true)) (fun _ _ wr => n - wr.iterPos w1.heap.size)
 case atStart => exact ⟨0, Nat.zero_le _, HST.out, HBL, hid rfl⟩
 case round =>
  obtain ⟨k, hk, hit, HW, HK⟩ := hrel
  have HIP : Hid (wr.iterPos w1.heap.size = k) := hid (by unfold World.iterPos; rw [hit])
  have HIT := hid hit
  have HLT := hid (lt_of_heap hit)
  by_cases hlt : k < n
  ·have hks : k < s.size := by rw [HN.out]; exact hlt
   have HKL : Hid (k < s.data.toList.length) := hid (by rw [HDL.out]; exact hlt)
   have HG : Hid (s.data.toList.getD k 0 = s[k]'hks) := hid (by rw [List.getD_eq_getElem?_getD, Lib.data_getElem? s k hks]; rfl)
   by_cases hx : (s[k]'hks).toNat < 128
   ·have hnx := fun ty => Lib.run_next_ascii_at (P := Tryz.prog) wr w1.heap.size s k ty hit hks hx
    have hit2 := hid (Lib.iterAt_heap wr w1.heap.size s k (k + 1) hit)
    have HW2 := hid (Lib.below_iterAt HW.out (Nat.le_refl w1.heap.size) s (k + 1))
    obtain ⟨x, hxx⟩ : ∃ x, s[k]'hks = x := ⟨_, rfl⟩
    rw [hxx] at hnx hx HG
    obtain ⟨j, hj⟩ : ∃ j, Lib.indexByte [34, 39] x = j := ⟨_, rfl⟩
    have hjq := idx_hit x
    rw [hj] at hjq
    have HA1 : Hid (∀ W, Calls Tryz.prog 62 #[.string Q, .int .i32 ((x.toNat : Nat) : Int)] W fun e w' => e = .returned (.int .i64 j) ∧ w' = W) := hid (fun W => by
     have h := HA.out ((x.toNat : Nat) : Int) (by omega) (by omega) W
     rw [show (((x.toNat : Nat) : Int)).toNat.toUInt8 = x by simp, hj] at h
     exact h)
    generalize wr.iterAt w1.heap.size s (k + 1) = W2 at hnx hit2 HW2
    clear hxx hks hx hit
    cases hq : isQ x
    ·rw [hq] at hjq
     have HNX : Hid (noq (s.data.toList.take (k + 1)) = true) := hid (by rw [noq_step HKL.out, HK.out, HG.out, hq]; rfl)
     clear hq
     go_wp2_with (go_at_call 62; refine (HA1.out _).mono ?_; rintro e w2 ⟨rfl, rfl⟩)
     go_roundw
     case rel => exact ⟨k + 1, by omega, hit2.out, HW2, HNX⟩
     case measure => rw [HIP.out, show World.iterPos w2 w1.heap.size = k + 1 by unfold World.iterPos; rw [hit2.out]]; omega
    ·rw [hq] at hjq
     have HNX : Hid (noq s.data.toList = false) := hid (noq_hit HKL.out (by rw [HG.out]; exact hq))
     clear hq
     go_wp2_with (go_at_call 62; refine (HA1.out _).mono ?_; rintro e w2 ⟨rfl, rfl⟩)
     go_ret
     exact ⟨_, rfl, by rw [HNX.out]; exact decide_eq_true (by omega), HW2.out⟩
   ·have hnx := fun ty => Lib.run_next_any_at (P := Tryz.prog) wr w1.heap.size s k ty hit hks
    have h3 := decode_high s k hks (by omega)
    have h4 := decode_le s k
    have HSK := hid (noq_all HK.out (decode_skip s k hks (by omega)))
    have hle : k + (Utf8.decode s k).2 ≤ n := by
     have := (decode_skip s k hks (by omega) ((Utf8.decode s k).2 - 1) (by omega)).1
     rw [HN.out] at this
     omega
    obtain ⟨r, hr⟩ : ∃ r, (Utf8.decode s k).1 = r := ⟨_, rfl⟩
    obtain ⟨d, hd⟩ : ∃ d, (Utf8.decode s k).2 = d := ⟨_, rfl⟩
    rw [hr, hd] at h3
    rw [hr] at h4
    rw [hd] at hle HSK
    simp only [hr, hd] at hnx
    have hit2 := hid (Lib.iterAt_heap wr w1.heap.size s k (k + d) hit)
    have HW2 := hid (Lib.below_iterAt HW.out (Nat.le_refl w1.heap.size) s (k + d))
    have HR1 := hid (fun W => HR.out r h3.1 h4 W)
    have hd1 : 1 ≤ d := h3.2
    generalize wr.iterAt w1.heap.size s (k + d) = W2 at hnx hit2 HW2
    clear hr hd h3 h4 hks hx HG hit
    have hlow : decide ((0 : Int) ≤ -1) = false := by decide
    go_wp2_with (go_at_call 62; refine (HR1.out _).mono ?_; rintro e w2 ⟨rfl, hb2⟩)
    have hit3 : w2.heap[w1.heap.size]? = some (.stringIter s (k + d)) := (hb2.block w1.heap.size (lt_of_heap hit2.out)).trans hit2.out
    have HW3 := hid (HW2.out.trans (hb2.mono (Nat.le_of_lt (lt_of_heap hit2.out))))
    clear hb2
    go_roundw
    case rel => exact ⟨k + d, hle, hit3, HW3, HSK⟩
    case measure => rw [HIP.out, show World.iterPos w2 w1.heap.size = k + d by unfold World.iterPos; rw [hit3]]; omega
  ·obtain rfl : k = n := by omega
   have hnx := fun ty => Lib.run_next_end_at (P := Tryz.prog) wr w1.heap.size s k ty hit (by rw [HN.out]; omega)
   have HNX : Hid (noq s.data.toList = true) := hid (by
    have := HK.out
    rwa [List.take_of_length_le (by rw [HDL.out]; exact Nat.le_refl _)] at this)
   clear hit
   go_wp2
   go_ret
   exact ⟨_, rfl, by rw [HNX.out]; decide, HW.out⟩
theorem IndexAny_q (Q : ByteArray) (hQ : Q.data.toList = [34, 39]) (s : ByteArray) (w : World) (hs : s.size ≤ 1000000) :
  Calls Tryz.prog 44 #[.string s, .string Q] w (AnyQ s w) := by
 by_cases h8 : s.size ≤ 8
 ·exact IndexAny_short Q hQ s w h8
 ·have hz : Q.size = 2 := by rw [← len_eq, hQ]; rfl
  refine (Tryz.strings_IndexAny_long (zero_of_info (n := 256) (by kernel_rfl)).1 s Q w (by omega) (by omega) (by omega) (by omega) (fun j b h => ?_)).mono ?_
  ·rw [hQ] at h
   have hb : b ∈ ([34, 39] : List UInt8) := List.mem_of_getElem? h
   exact (by decide : ∀ b ∈ ([34, 39] : List UInt8), b.toNat < 128) b hb
  ·rintro e w' ⟨rfl, rfl⟩
   refine ⟨_, rfl, by rw [hQ]; exact any_noq _, ((Below.refl _ _).alloc (Nat.le_refl _) _).alloc (by simp) _⟩
theorem ContainsAny_q (Q : ByteArray) (hQ : Q.data.toList = [34, 39]) (s : ByteArray) (w : World) (hs : s.size ≤ 1000000) (b : Bool) (hb : noq s.data.toList = !b) :
  Calls Tryz.prog 25 #[.string s, .string Q] w fun e w' => e = .returned (.bool b) ∧ Below w.heap.size w w' := by
 have H := hid (IndexAny_q Q hQ s w hs)
 have HB := hid hb
 clear hb hs
 go_enter Tryz.func25, Tryz.ntmps25
 go_wp2_with (go_at_call 44; refine H.out.mono ?_; rintro e w1 ⟨i, rfl, hi, hb1⟩)
 go_ret
 exact ⟨ret_b (by rw [HB.out, Bool.not_not]), hb1⟩
theorem Scalar_any (s : ByteArray) (w : World) (hs : s.size ≤ 1000000) (q : ByteArray) (hq : scw s.data.toList = q.data.toList) :
  Calls Tryz.prog 11 #[.string s] w fun e w' => e = .returned (.string q) ∧ Below w.heap.size w w' := by
 have HP := hid (fun b h W => Plain_q s b W (Nat.le_trans hs (by decide)) h)
 have HC := hid (fun b h W => ContainsAny_q ⟨#[34, 39]⟩ rfl s W hs b h)
 have HD := hid (fun D h W => Double_any s W hs D h)
 unfold scw at hq
 cases hp : plainB s.data.toList
 ·rw [hp] at hq
  have HP1 := hid (fun W => HP.out false hp W)
  have HD1 := hid (fun W => HD.out q hq W)
  clear hp hq HP HD HC hs
  go_enter Tryz.func11, Tryz.ntmps11
  go_wp2_with fail
  refine (HP1.out _).mono ?_
  rintro e w1 ⟨rfl, rfl⟩
  go_wp2_with fail
  refine (HD1.out _).mono ?_
  rintro e w2 ⟨rfl, hb⟩
  go_wp2
  go_ret
  exact ⟨rfl, hb⟩
 ·cases hn : noq s.data.toList
  ·rw [hp, hn] at hq
   have HP1 := hid (fun W => HP.out true hp W)
   have HC1 := hid (fun W => HC.out true hn W)
   have HD1 := hid (fun W => HD.out q hq W)
   clear hp hq HP HD HC hs hn
   go_enter Tryz.func11, Tryz.ntmps11
   go_wp2_with fail
   refine (HP1.out _).mono ?_
   rintro e w1 ⟨rfl, rfl⟩
   go_wp2_with fail
   refine (HC1.out _).mono ?_
   rintro e w2 ⟨rfl, hb2⟩
   go_wp2_with fail
   refine (HD1.out _).mono ?_
   rintro e w3 ⟨rfl, hb⟩
   go_wp2
   go_ret
   exact ⟨rfl, belowNext hb2 hb⟩
  ·rw [hp, hn] at hq
   have HQ : Hid (s.data.toList = q.data.toList) := hid hq
   have HP1 := hid (fun W => HP.out true hp W)
   have HC1 := hid (fun W => HC.out false hn W)
   clear hp hq HP HD HC hs hn
   go_enter Tryz.func11, Tryz.ntmps11
   go_wp2_with fail
   refine (HP1.out _).mono ?_
   rintro e w1 ⟨rfl, rfl⟩
   go_wp2_with fail
   refine (HC1.out _).mono ?_
   rintro e w2 ⟨rfl, hb2⟩
   go_wp2
   go_ret
   exact ⟨str_of HQ.out, hb2⟩
end
section
open Go.RowKit Go.Sort
open Nw N8 Q6 F9 B10 E11
theorem isShort_any (d : Nd) (hf : N8.Fine d) (b : Bool) (hb : shrt d = b) (c0 c1 c2 c3 : Value) (w : World) (hd : NdW w d c0 c1 c2 c3) :
  Calls Tryz.prog 56 #[.agg #[c0, c1, c2, c3]] w fun e w' => e = .returned (.bool b) ∧ Below w.heap.size w w' := by
 obtain ⟨k, t, ks, ds⟩ := d
 have HB := hid (Boxed.make hd)
 obtain ⟨⟨h0, h3⟩, -, -, -, -⟩ := fine_in hf
 obtain ⟨rfl, rfl, _, A, cap, rfl, hcap, hcm, _⟩ := hd.parts
 obtain ⟨T, hT⟩ : ∃ T, ba t = T := ⟨_, rfl⟩
 rw [hT] at HB ⊢
 obtain ⟨n, hn⟩ : ∃ n, ds.length = n := ⟨_, rfl⟩
 rw [hn] at HB ⊢
 have hb' : (decide (k < 2) || decide (ds = [])) = b := hb
 have he : decide (ds = []) = decide (n = 0) := by
  rw [decide_eq_decide, ← hn]; exact List.length_eq_zero_iff.symm
 rw [he] at hb'
 obtain ⟨x0, x1, x2, x3⟩ := HB.out.2.1.cells
 have hk4 : k = 0 ∨ k = 1 ∨ k = 2 ∨ k = 3 := by omega
 clear hd hb hT hn he hf h0 h3
 rcases hk4 with rfl | rfl | rfl | rfl
 ·have HE : Hid (b = true) := hid (by rw [← hb']; rfl)
  clear hb'
  go_enter Tryz.func56, Tryz.ntmps56
  go_wp2
  go_ret
  exact ⟨bool_of HE.out, HB.out.1⟩
 ·have HE : Hid (b = true) := hid (by rw [← hb']; rfl)
  clear hb'
  go_enter Tryz.func56, Tryz.ntmps56
  go_wp2
  go_ret
  exact ⟨bool_of HE.out, HB.out.1⟩
 all_goals
  by_cases hn0 : n = 0
  ·subst hn0
   have HE : Hid (b = true) := hid (by rw [← hb']; rfl)
   clear hb'
   go_enter Tryz.func56, Tryz.ntmps56
   go_wp2
   go_ret
   exact ⟨bool_of HE.out, HB.out.1⟩
  ·have m0 : ((n : Int) == 0) = false := beq_eq_false_iff_ne.2 (by omega)
   have HE : Hid (b = false) := hid (by rw [← hb', decide_eq_false hn0]; rfl)
   clear hb' hn0
   go_enter Tryz.func56, Tryz.ntmps56
   go_wp2
   go_ret
   exact ⟨bool_of HE.out, HB.out.1⟩
theorem shortForm_any (d : Nd) (hf : N8.Fine d) (ht : d.text.length ≤ 1000000) (q : ByteArray) (hq : scal d = q.data.toList) (c0 c1 c2 c3 : Value) (w : World) (hd : NdW w d c0 c1 c2 c3) :
  Calls Tryz.prog 57 #[.agg #[c0, c1, c2, c3]] w fun e w' => e = .returned (.string q) ∧ Below w.heap.size w w' := by
 obtain ⟨k, t, ks, ds⟩ := d
 have HB := hid (Boxed.make hd)
 obtain ⟨⟨h0, h3⟩, -, -, -, -⟩ := fine_in hf
 obtain ⟨rfl, rfl, _, A, cap, rfl, _⟩ := hd.parts
 obtain ⟨T, hT⟩ : ∃ T, ba t = T := ⟨_, rfl⟩
 have hTt : T.data.toList = t := by rw [← hT, ba_data]
 rw [hT] at HB ⊢
 obtain ⟨n, hn⟩ : ∃ n, ds.length = n := ⟨_, rfl⟩
 rw [hn] at HB ⊢
 have hq' : (if k = 0 then [110, 117, 108, 108] else if k = 1 then scw t else if k = 2 then [91, 93] else [123, 125]) = q.data.toList := hq
 obtain ⟨x0, x1, x2, x3⟩ := HB.out.2.1.cells
 have hk4 : k = 0 ∨ k = 1 ∨ k = 2 ∨ k = 3 := by omega
 rcases hk4 with rfl | rfl | rfl | rfl
 ·have HQ : Hid ((⟨#[110, 117, 108, 108]⟩ : ByteArray).data.toList = q.data.toList) := hid (by rw [← hq', if_pos rfl])
  clear hd hf hT hTt hq hq' ht h0 h3 hn
  go_enter Tryz.func57, Tryz.ntmps57
  go_wp2
  go_ret
  exact ⟨str_of HQ.out, HB.out.1⟩
 ·have HT := hid (fun W => Scalar_any T W (by rw [← len_eq, hTt]; exact ht) q (by rw [hTt, ← hq', if_neg (by decide), if_pos rfl]))
  clear hd hf hT hTt hq hq' ht h0 h3 hn
  go_enter Tryz.func57, Tryz.ntmps57
  go_wp2_with fail
  refine (HT.out _).mono ?_
  rintro e w1 ⟨rfl, hb⟩
  go_wp2
  go_ret
  exact ⟨rfl, (HB.out.go hb).1⟩
 ·have HQ : Hid ((⟨#[91, 93]⟩ : ByteArray).data.toList = q.data.toList) := hid (by rw [← hq', if_neg (by decide), if_neg (by decide), if_pos rfl])
  clear hd hf hT hTt hq hq' ht h0 h3 hn
  go_enter Tryz.func57, Tryz.ntmps57
  go_wp2
  go_ret
  exact ⟨str_of HQ.out, HB.out.1⟩
 ·have HQ : Hid ((⟨#[123, 125]⟩ : ByteArray).data.toList = q.data.toList) := hid (by rw [← hq', if_neg (by decide), if_neg (by decide), if_neg (by decide)])
  clear hd hf hT hTt hq hq' ht h0 h3 hn
  go_enter Tryz.func57, Tryz.ntmps57
  go_wp2
  go_ret
  exact ⟨str_of HQ.out, HB.out.1⟩
theorem keyForm_any (s : ByteArray) (w : World) (hs : s.size ≤ 1000000) (q : ByteArray) (hq : keyw s.data.toList = q.data.toList) :
  Calls Tryz.prog 84 #[.string s] w fun e w' => e = .returned (.string q) ∧ Below w.heap.size w w' := by
 have HS := hid (fun h W => Scalar_any s W hs q h)
 have HD := hid (fun h W => Double_any s W hs q h)
 unfold keyw at hq
 by_cases hk : s.data.toList = [60, 60]
 ·rw [if_pos hk] at hq
  have HD1 := hid (fun W => HD.out hq W)
  obtain rfl : s = ⟨#[60, 60]⟩ := bytes_of (l := #[60, 60]) hk
  clear hq HS HD hs hk
  go_enter Tryz.func84, Tryz.ntmps84
  go_wp2_with fail
  refine (HD1.out _).mono ?_
  rintro e w2 ⟨rfl, hb⟩
  go_wp2
  go_ret
  exact ⟨rfl, hb⟩
 ·rw [if_neg hk] at hq
  have HS1 := hid (fun W => HS.out hq W)
  have m1 : (s.toList == [60, 60]) = false := by rw [ByteArray.toList_eq]; exact beq_eq_false_iff_ne.2 hk
  clear hq HS HD hs hk
  go_enter Tryz.func84, Tryz.ntmps84
  go_wp2_with fail
  refine (HS1.out _).mono ?_
  rintro e w2 ⟨rfl, hb⟩
  go_wp2
  go_ret
  exact ⟨rfl, hb⟩
theorem isMarker_any (d : Nd) (b : Bool) (hb : (decide (d.kind = 1) && marker d.text) = b) (c0 c1 c2 c3 : Value) (w : World) (hd : NdW w d c0 c1 c2 c3) :
  Calls Tryz.prog 36 #[.agg #[c0, c1, c2, c3]] w fun e w' => e = .returned (.bool b) ∧ Below w.heap.size w w' := by
 obtain ⟨k, t, ks, ds⟩ := d
 have HB := hid (Boxed.make hd)
 obtain ⟨rfl, rfl, _, A, cap, rfl, _⟩ := hd.parts
 obtain ⟨n, hn⟩ : ∃ n, ds.length = n := ⟨_, rfl⟩
 rw [hn] at HB ⊢
 have hb' : (decide (k = 1) && marker t) = b := hb
 clear hd hb
 by_cases h1 : k = 1
 ·subst h1
  have hb2 : marker t = b := hb'
  clear hb'
  by_cases h2 : t = [45, 45, 45]
  ·subst h2
   have HE : Hid (b = true) := hid (by rw [← hb2]; rfl)
   have hT : ba [45, 45, 45] = ⟨#[45, 45, 45]⟩ := rfl
   rw [hT] at HB ⊢
   obtain ⟨x0, x1, x2, x3⟩ := HB.out.2.1.cells
   clear hb2 hn hT
   go_enter Tryz.func36, Tryz.ntmps36
   go_wp2
   go_ret
   exact ⟨bool_of HE.out, HB.out.1⟩
  ·by_cases h3 : t = [46, 46, 46]
   ·subst h3
    have HE : Hid (b = true) := hid (by rw [← hb2]; rfl)
    have hT : ba [46, 46, 46] = ⟨#[46, 46, 46]⟩ := rfl
    rw [hT] at HB ⊢
    obtain ⟨x0, x1, x2, x3⟩ := HB.out.2.1.cells
    clear hb2 hn hT h2
    go_enter Tryz.func36, Tryz.ntmps36
    go_wp2
    go_ret
    exact ⟨bool_of HE.out, HB.out.1⟩
   ·have HE : Hid (b = false) := hid (by
     rw [← hb2, Bool.eq_false_iff]; intro e
     rcases mark_text e with e | e
     ·exact h2 e
     ·exact h3 e)
    obtain ⟨T, hT⟩ : ∃ T, ba t = T := ⟨_, rfl⟩
    have hTt : T.data.toList = t := by rw [← hT, ba_data]
    rw [hT] at HB ⊢
    obtain ⟨x0, x1, x2, x3⟩ := HB.out.2.1.cells
    have m2 : (T.toList == [45, 45, 45]) = false := by rw [ByteArray.toList_eq, hTt]; exact beq_eq_false_iff_ne.2 h2
    have m3 : (T.toList == [46, 46, 46]) = false := by rw [ByteArray.toList_eq, hTt]; exact beq_eq_false_iff_ne.2 h3
    clear hb2 hn hT h2 h3 hTt
    go_enter Tryz.func36, Tryz.ntmps36
    go_wp2
    go_ret
    exact ⟨bool_of HE.out, HB.out.1⟩
 ·have m1 : (k == 1) = false := beq_eq_false_iff_ne.2 h1
  have HE : Hid (b = false) := hid (by rw [← hb', decide_eq_false h1]; rfl)
  obtain ⟨T, hT⟩ : ∃ T, ba t = T := ⟨_, rfl⟩
  rw [hT] at HB ⊢
  obtain ⟨x0, x1, x2, x3⟩ := HB.out.2.1.cells
  clear hb' hn hT h1
  go_enter Tryz.func36, Tryz.ntmps36
  go_wp2
  go_ret
  exact ⟨bool_of HE.out, HB.out.1⟩
end
section
open Go.RowKit Go.Sort
open Nw N8 Q6 F9 B10 E11
attribute [local go_sem] Oper.semAt_some
abbrev T8 : TypeId := 5
theorem enc_q {x : L8} {q : ByteArray} (h : q.data.toList = x) : encStr x = .string q := by subst h; rfl
theorem kept_box {n0 C B : Nat} {w W : World} (hk : Kept T8 n0 C B w W) {b : Nat} {cs : Array Value} {t : TypeId} {fr : Nat × Nat} (h : w.heap[b]? = some (.cells cs t fr)) (hC : C ≤ b) (ht : t ≠ T8) : W.heap[b]? = some (.cells cs t fr) :=
 hk.same b _ h (.inr (.inl ⟨hC, rfl, by simpa [rowOf] using ht⟩))
theorem cell_box {W : World} {b : Nat} {v : Value} {t : TypeId} {fr : Nat × Nat} (h : W.heap[b]? = some (.cells #[v] t fr)) : W.cell? ⟨b, 0, none⟩ = some v := by simp [World.cell?, h]
theorem frozen_box {W : World} {b : Nat} {v : Value} {t : TypeId} (h : W.heap[b]? = some (.cells #[v] t (0, 0))) : W.frozen? ⟨b, 0, none⟩ = false := by simp [World.frozen?, h]
theorem one_iter (n0 C b : Nat) (q : ByteArray) (w : World) (hC : C ≤ b) (hb : w.heap[b]? = some (.cells #[.string q] 9 (0, 0))) :
  IterOk Tryz.prog T8 n0 C 55 #[.pointer (some ⟨b, 0, none⟩)] [q.data.toList] w := by
 intro l J W hW hJ hY h0
 have hc := cell_box (kept_box hW hb hC (by decide))
 obtain ⟨fn, tmps, assign, body, hy, hR⟩ := hY [] q.data.toList W (List.prefix_refl _) h0
 rw [enc_q (q := q) rfl] at hy
 clear hY hb h0 hJ
 refine callsIn_of_wp Tryz.func55 rfl trivial ?_ rfl
 simp only [Tryz.ntmps55, List.size_toArray, List.length_cons, List.length_nil, Nat.reduceAdd, Nat.reduceSub, Array.replicate_succ, Array.replicate_zero, List.push_toArray, List.append_toArray, List.nil_append, List.cons_append]
 gi_wp2
 refine (roundIn_any hR).mono ?_
 rintro e W3 ⟨rfl, hj, hk⟩
 gi_wp2
 go_end0
 exact ⟨⟨_, rfl⟩, hj⟩
theorem oneLine_any (n0 : Nat) (q : ByteArray) (w : World) :
  Calls Tryz.prog 37 #[.string q] w fun e w' => ∃ v, e = .returned v ∧ Below w.heap.size w w' ∧ Seqs Tryz.prog T8 n0 w.heap.size v [q.data.toList] w' := by
 have HI := hid (one_iter n0 w.heap.size w.heap.size q (w.alloc (.cells #[.string q] 9)) (Nat.le_refl _) (World.alloc_heap_new w _))
 have HB := hid (below_alloc w (.cells #[.string q] 9))
 go_enter Tryz.func37, Tryz.ntmps37
 go_wp2
 go_ret
 exact ⟨_, rfl, HB.out, _, _, rfl, enters_of Tryz.func55 (by kernel_rfl) rfl, HI.out⟩
theorem none_iter (n0 C : Nat) (w : World) : IterOk Tryz.prog T8 n0 C 35 #[] [] w := by
 intro l J W hW hJ hY h0
 refine callsIn_of_wp Tryz.func35 rfl trivial ?_ rfl
 simp only [Tryz.ntmps35, List.size_toArray, List.length_cons, List.length_nil, Nat.reduceAdd, Nat.reduceSub, Array.replicate_succ, Array.replicate_zero, List.push_toArray, List.append_toArray, List.nil_append, List.cons_append]
 gi_wp2
 go_end0
 exact ⟨⟨_, rfl⟩, h0⟩
end
end Go.Proofs.YtmdgpejedbkkdaaGreatDoor
