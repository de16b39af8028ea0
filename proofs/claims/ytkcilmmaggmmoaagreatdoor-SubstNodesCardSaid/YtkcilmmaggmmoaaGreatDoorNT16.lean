/- ShelfB, NodConcat, NodSorted -/
import Derived.Laws.AppendOwnNone
import Derived.Shelf.Lay
import Derived.Shelf.Slices.CompactS
import Derived.Shelf.Slices.In.SortNone
import Derived.Shelf.Sort.Plain
import Derived.Shelf.Spec.SlicesGrow
import Derived.Test.YtkcilmmaggmmoaaGreatDoorNT15
import Derived.Test.YtkcilmmaggmmoaaGreatDoorNT4
import Derived.Test.YtkcilmmaggmmoaaGreatDoorProg
set_option linter.unusedVariables false
set_option linter.unusedSimpArgs false
set_option maxRecDepth 100000
set_option maxHeartbeats 16000000
open Go.Lib (hid)
namespace Go.Proofs.YtkcilmmaggmmoaaGreatDoor
namespace Nw
end Nw
end Go.Proofs.YtkcilmmaggmmoaaGreatDoor
namespace Go.Proofs
open Go.Shelf
def Tryz.lays190_ren : Go.Shelf.Ren := ⟨fun | 190 => 54 | 125 => 73 | 258 => 72 | 128 => 101 | 129 => 102 | 302 => 92 | 303 => 93 | 304 => 94 | 305 => 95 | 306 => 96 | 307 => 97 | 308 => 98 | 309 => 99 | 310 => 100 | 333 => 107 | 329 => 108 | 330 => 109 | 334 => 110 | 335 => 111 | 336 => 112 | 344 => 114 | n => n, fun | 31 => 22 | 9 => 9 | 3 => 3 | 46 => 114 | 0 => 0 | 51 => 129 | 53 => 131 | 4 => 4 | 183 => 122 | 182 => 121 | 131 => 126 | 5 => 5 | 218 => 139 | 222 => 143 | 228 => 146 | 229 => 95 | n => n, fun | n => n⟩
theorem Tryz.lays190 : Go.Proofs.Lays.n190 Tryz.prog Tryz.lays190_ren := {
 mixed := by kernel_rfl
 f125 := Tryz.func73.trans (congrArg some (by kernel_rfl))
 f128 := Tryz.func101.trans (congrArg some (by kernel_rfl))
 f129 := Tryz.func102.trans (congrArg some (by kernel_rfl))
 f190 := Tryz.func54.trans (congrArg some (by kernel_rfl))
 f258 := Tryz.func72.trans (congrArg some (by kernel_rfl))
 f302 := Tryz.func92.trans (congrArg some (by kernel_rfl))
 f303 := Tryz.func93.trans (congrArg some (by kernel_rfl))
 f304 := Tryz.func94.trans (congrArg some (by kernel_rfl))
 f305 := Tryz.func95.trans (congrArg some (by kernel_rfl))
 f306 := Tryz.func96.trans (congrArg some (by kernel_rfl))
 f307 := Tryz.func97.trans (congrArg some (by kernel_rfl))
 f308 := Tryz.func98.trans (congrArg some (by kernel_rfl))
 f309 := Tryz.func99.trans (congrArg some (by kernel_rfl))
 f310 := Tryz.func100.trans (congrArg some (by kernel_rfl))
 f329 := Tryz.func108.trans (congrArg some (by kernel_rfl))
 f330 := Tryz.func109.trans (congrArg some (by kernel_rfl))
 f333 := Tryz.func107.trans (congrArg some (by kernel_rfl))
 f334 := Tryz.func110.trans (congrArg some (by kernel_rfl))
 f335 := Tryz.func111.trans (congrArg some (by kernel_rfl))
 f336 := Tryz.func112.trans (congrArg some (by kernel_rfl))
 f344 := Tryz.func114.trans (congrArg some (by kernel_rfl))
 t0 := Tryz.underlying0
 a0 := Tryz.isAgg0
 z0 := Tryz.sizeOf0
 v0 := Tryz.zeroValue0
 t3 := Tryz.underlying3
 a3 := Tryz.isAgg3
 z3 := Tryz.sizeOf3
 v3 := Tryz.zeroValue3
 t4 := Tryz.underlying4
 a4 := Tryz.isAgg4
 z4 := Tryz.sizeOf4
 v4 := Tryz.zeroValue4
 t5 := Tryz.underlying5
 a5 := Tryz.isAgg5
 z5 := Tryz.sizeOf5
 v5 := Tryz.zeroValue5
 t9 := Tryz.underlying9
 a9 := Tryz.isAgg9
 z9 := Tryz.sizeOf9
 v9 := Tryz.zeroValue9
 t31 := Tryz.underlying22
 a31 := Tryz.isAgg22
 z31 := Tryz.sizeOf22
 v31 := Tryz.zeroValue22
 t46 := Tryz.underlying114
 a46 := Tryz.isAgg114
 z46 := Tryz.sizeOf114
 v46 := Tryz.zeroValue114
 t51 := Tryz.underlying129
 a51 := Tryz.isAgg129
 z51 := Tryz.sizeOf129
 v51 := Tryz.zeroValue129
 t53 := Tryz.underlying131
 a53 := Tryz.isAgg131
 z53 := Tryz.sizeOf131
 v53 := Tryz.zeroValue131
 t131 := Tryz.underlying126
 a131 := Tryz.isAgg126
 z131 := Tryz.sizeOf126
 v131 := Tryz.zeroValue126
 t182 := Tryz.underlying121
 a182 := Tryz.isAgg121
 z182 := Tryz.sizeOf121
 v182 := Tryz.zeroValue121
 t183 := Tryz.underlying122
 a183 := Tryz.isAgg122
 z183 := Tryz.sizeOf122
 v183 := Tryz.zeroValue122
 t218 := Tryz.underlying139
 a218 := Tryz.isAgg139
 z218 := Tryz.sizeOf139
 v218 := Tryz.zeroValue139
 t222 := Tryz.underlying143
 a222 := Tryz.isAgg143
 z222 := Tryz.sizeOf143
 v222 := Tryz.zeroValue143
 t228 := Tryz.underlying146
 a228 := Tryz.isAgg146
 z228 := Tryz.sizeOf146
 v228 := Tryz.zeroValue146
 t229 := Tryz.underlying95
 a229 := Tryz.isAgg95
 z229 := Tryz.sizeOf95
 v229 := Tryz.zeroValue95 }
open Go.Sort Go.RowKit in
theorem Tryz.slices_Sort_string (blk off cap : Nat) (ss : List (List UInt8)) (w : World) (hH : Holds encStr w blk off ss.toArray) (hblk : blk < w.heap.size) (hsz : ss.length < 4611686018427387904) :
  Calls Tryz.prog 54 #[.slice (some ⟨blk, off, none⟩) ss.length cap] w fun e w' =>
   e = .returned (.tuple #[]) ∧ ∃ n os, w' = grow (putRow encStr (Sort.ahead w n) blk off (ss.mergeSort fun x y => decide (x ≤ y)).toArray) os := Any.slices_Sort_string Tryz.lays190 blk off cap ss w hH hblk hsz
def Tryz.lays194_ren : Go.Shelf.Ren := ⟨fun | 194 => 55 | n => n, fun | 31 => 22 | 9 => 9 | 3 => 3 | 4 => 4 | 0 => 0 | n => n, fun | n => n⟩
theorem Tryz.lays194 : Go.Proofs.Lays.n194 Tryz.prog Tryz.lays194_ren := {
 mixed := by kernel_rfl
 f194 := Tryz.func55.trans (congrArg some (by kernel_rfl))
 t0 := Tryz.underlying0
 a0 := Tryz.isAgg0
 z0 := Tryz.sizeOf0
 v0 := Tryz.zeroValue0
 t3 := Tryz.underlying3
 a3 := Tryz.isAgg3
 z3 := Tryz.sizeOf3
 v3 := Tryz.zeroValue3
 t4 := Tryz.underlying4
 a4 := Tryz.isAgg4
 z4 := Tryz.sizeOf4
 v4 := Tryz.zeroValue4
 t9 := Tryz.underlying9
 a9 := Tryz.isAgg9
 z9 := Tryz.sizeOf9
 v9 := Tryz.zeroValue9
 t31 := Tryz.underlying22
 a31 := Tryz.isAgg22
 z31 := Tryz.sizeOf22
 v31 := Tryz.zeroValue22 }
open Go.RowKit Go.Lib Go.Sort in
theorem Tryz.slices_Compact_string (blk off cap : Nat) (zs : List (List UInt8)) (w : World) (hH : Holds encStr w blk off zs.toArray) (hsz : zs.length ≤ 9223372036854775807) (hcap : zs.length ≤ cap) :
  Calls Tryz.prog 55 #[.slice (some ⟨blk, off, none⟩) zs.length cap] w fun e w' => e = .returned (.slice (some ⟨blk, off, none⟩) (Lib.compact zs).length cap) ∧ ∃ q, w' = putRow encStr (Sort.ahead w q) blk off (Lib.compact zs ++ List.replicate (zs.length - (Lib.compact zs).length) []).toArray := Any.slices_Compact_string Tryz.lays194 blk off cap zs w hH hsz hcap
open Go.RowKit Go.Lib Go.Sort in
theorem Tryz.slices_Compact_string_empty (a : Option Addr) (cap : Nat) (w : World) :
  Calls Tryz.prog 55 #[.slice a 0 cap] w fun e w' => e = .returned (.slice a 0 cap) ∧ w' = w := Any.slices_Compact_string_empty Tryz.lays194 a cap w
open Go.RowKit Go.Sort in
theorem Tryz.slices_Sort_string_none (p : Option Addr) (cap : Nat) (w : World) :
  Calls Tryz.prog 54 #[.slice p 0 cap] w fun e w' => e = .returned (.tuple #[]) ∧ w' = w := Any.slices_Sort_string_none Tryz.lays190 p cap w
def Tryz.lays8n4_ren : Go.Shelf.Ren := ⟨fun | 4 => 56 | n => n, fun | 22 => 22 | 25 => 9 | 3 => 3 | 4 => 4 | 9 => 9 | 20 => 20 | 0 => 0 | n => n, fun | n => n⟩
theorem Tryz.lays8n4 : Go.Proofs.Lays8.n4 Tryz.prog Tryz.lays8n4_ren := {
 mixed := by kernel_rfl
 f4 := ⟨Tryz.f56.name, by decide, Tryz.func56.trans (congrArg some (by kernel_rfl))⟩
 t0 := Tryz.underlying0
 a0 := Tryz.isAgg0
 z0 := Tryz.sizeOf0
 v0 := Tryz.zeroValue0
 t3 := Tryz.underlying3
 a3 := Tryz.isAgg3
 z3 := Tryz.sizeOf3
 v3 := Tryz.zeroValue3
 t4 := Tryz.underlying4
 a4 := Tryz.isAgg4
 z4 := Tryz.sizeOf4
 v4 := Tryz.zeroValue4
 t9 := Tryz.underlying9
 a9 := Tryz.isAgg9
 z9 := Tryz.sizeOf9
 v9 := Tryz.zeroValue9
 t20 := Tryz.underlying20
 a20 := Tryz.isAgg20
 z20 := Tryz.sizeOf20
 v20 := Tryz.zeroValue20
 t22 := Tryz.underlying22
 a22 := Tryz.isAgg22
 z22 := Tryz.sizeOf22
 v22 := Tryz.zeroValue22 }
open Go.RowKit in
theorem Tryz.slices_Grow_room (base : Option Addr) (l c n : Nat) (w : World) (hlc : l ≤ c) (hc63 : c ≤ 9223372036854775807) (hn63 : n ≤ 9223372036854775807) (hroom : l + n ≤ c) :
  Calls Tryz.prog 56 #[.slice base l c, .int .i64 n] w fun e w' => e = .returned (.slice base l c) ∧ w' = w := Any8.slices_Grow_room Tryz.lays8n4 base l c n w hlc hc63 hn63 hroom
open Go.RowKit Go.Lib in
theorem Tryz.slices_Grow_grow (i0 : TypeInfo) (z : Value) (hi0 : Tryz.prog.info? 9 = some i0) (hz0 : i0.zero = some z) (hs0 : 0 < i0.size)
  (base : Option Addr) (l c n : Nat) (cs : List Value) (w : World) (hlc : l ≤ c) (hroom : c < l + n) (hbig : (l + n) * i0.bytes ≤ 140737488355328) (h63 : l + n ≤ 4611686018427387904)
  (hcl : cs.length = c * i0.size) (hnil : base = none → c = 0) (hcs : ∀ a, base = some a → ∀ j v, cs[j]? = some v → w.cell? (a.add j) = some v) :
  Calls Tryz.prog 56 #[.slice base l c, .int .i64 n] w fun e w' =>
   e = .returned (.slice (some ⟨w.heap.size, 0, none⟩) l (grownCap w (l + n) c 9)) ∧
   w' = w.drew.alloc (.cells (cs.toArray ++ Builtin.zeroCells z.cells (l + n - c) ++ Builtin.zeroCells z.cells (grownCap w (l + n) c 9 - (l + n))) 9) := Any8.slices_Grow_grow Tryz.lays8n4 i0 z hi0 hz0 hs0 base l c n cs w hlc hroom hbig h63 hcl hnil hcs
end Go.Proofs
namespace Go.Proofs.YtkcilmmaggmmoaaGreatDoor
section
open Go.RowKit Go.Sort
open Nw Go.ChangeShapes Go.WideShapes
theorem Grow_nil (n : Nat) (w : World) (hn : n ≤ 8796093022207) :
  Calls Tryz.prog 56 #[.slice none 0 0, .int .i64 n] w fun e w' => ∃ v, e = .returned v ∧ w'.ownsRow w.heap.size 9 1 v 0 [] ∧ Below w.heap.size w w' := by
 by_cases h0 : n = 0
 ·subst h0
  refine (Tryz.slices_Grow_room none 0 0 0 w (Nat.le_refl _) (by omega) (by omega) (by omega)).mono ?_
  rintro e w' ⟨rfl, rfl⟩
  exact ⟨_, rfl, ⟨rfl, .inl ⟨rfl, rfl⟩⟩, Below.refl _ _⟩
 ·obtain ⟨i, hi, hz, hs, hby⟩ := infoS
  refine (Tryz.slices_Grow_grow i _ hi hz (by omega) none 0 0 n [] w (Nat.le_refl _) (by omega) (by rw [hby]; omega) (by omega) (by simp) (fun _ => rfl) (fun a h => by cases h)).mono ?_
  rintro e w' ⟨rfl, rfl⟩
  have hG := grownCap_ge w (0 + n) 0 9
  have hGm := grownCap_le_maxLen w (0 + n) 0 9 (by unfold maxLen; omega)
  refine ⟨_, rfl, ⟨rfl, .inr ⟨w.heap.size, _, ?cur, rfl, Nat.le_refl _, ?h, Nat.zero_le _, hGm, ?sz, ?tk⟩⟩, (Below.refl _ _).drew.alloc (Nat.le_refl _) _⟩
  case h => exact Array.getElem?_push_size (xs := w.heap)
  case tk => exact List.take_zero
  case sz =>
   simp only [Nat.zero_add] at hG
   simp [size_zeroCells, Value.cells]
   omega
theorem flat_succ {ls : List (List L8)} {k : Nat} (h : k < ls.length) : (ls.take (k + 1)).flatten = (ls.take k).flatten ++ ls[k] := by
 rw [List.take_succ_eq_append_getElem h, List.flatten_append]; simp
theorem flat_len {ls : List (List L8)} {k : Nat} (h : k < ls.length) : (ls.take (k + 1)).flatten.length = (ls.take k).flatten.length + ls[k].length := by rw [flat_succ h, List.length_append]
theorem flat_le (ls : List (List L8)) (k : Nat) : (ls.take k).flatten.length ≤ ls.flatten.length := by
 conv => rhs; rw [← List.take_append_drop k ls, List.flatten_append, List.length_append]
 omega
theorem Concat_any (b o m cap : Nat) (vs : List Value) (ls : List (List L8)) (w : World) (hm : ls.length = m) (hvs : vs.length = m) (hcap : m ≤ cap) (hc63 : cap ≤ 9223372036854775807) (hb : b < w.heap.size)
  (hc : ∀ j (h : j < vs.length), w.cell? ⟨b, o + j, none⟩ = some vs[j]) (hr : ∀ j (h : j < vs.length) (h' : j < ls.length), Rd w vs[j] ls[j]) (hbig : ls.flatten.length ≤ 4398046511103) :
  Calls Tryz.prog 41 #[.slice (some ⟨b, o, none⟩) m cap] w fun e w' => ∃ v, e = .returned v ∧ w'.ownsRow w.heap.size 9 1 v ls.flatten.length (ls.flatten.map encStr) ∧ Below w.heap.size w w' := by
 obtain ⟨i0, hi, hz0, hz1, hz2⟩ := infoS
 have HC := hid hc
 have HR := hid hr
 have HB := hid hbig
 clear hc hr hbig
 go_enter Tryz.func41, Tryz.ntmps41
 go_wp2
 go_loop [3, 5, 11] (fun n s i => ∃ k : Nat, k ≤ m ∧ i = .int .i64 k ∧ n = .int .i64 (ls.take k).flatten.length) (fun _ _ i => m - (intOf i).toNat)
 case atStart => exact ⟨0, Nat.zero_le _, rfl, rfl⟩
 case round =>
  obtain ⟨k, hk, rfl, rfl⟩ := hrel
  have hle := flat_le ls k
  by_cases hlt : k < m
  ·have hk1 : Hid (k < vs.length) := hid (by omega)
   have hk2 : Hid (k < ls.length) := hid (by omega)
   obtain ⟨a, cp, hv, hcp, hcm, _⟩ := HR.out k hk1.out hk2.out
   have hcell := HC.out k hk1.out
   rw [hv] at hcell
   have hsum := flat_len hk2.out
   have hle2 := flat_le ls (k + 1)
   have hbb := HB.out
   have HS : Hid ((ls.take (k + 1)).flatten.length = (ls.take k).flatten.length + (ls[k]'hk2.out).length) := hid hsum
   clear hsum hv
   rw [HS.out] at hle2
   generalize (ls.take k).flatten.length = T at hle hle2 HS ⊢
   generalize (ls[k]'hk2.out).length = n1 at hcp hcell hle2 HS
   generalize ls.flatten.length = TT at hle hle2 hbb HB ⊢
   go_wp2
   go_round
   case rel => exact ⟨k + 1, by omega, by go_num, by rw [HS.out]; go_num⟩
   case measure => simp [intOf]; omega
  ·obtain rfl : k = m := by omega
   have hall : (ls.take k).flatten = ls.flatten := by rw [← hm, List.take_length]
   rw [hall]
   have hG := Grow_nil ls.flatten.length w (by have := HB.out; omega)
   clear hall hle
   obtain ⟨TT, HT⟩ : ∃ TT, Hid (TT = ls.flatten.length) := ⟨_, rfl⟩
   rw [← HT.out] at hG ⊢
   go_wp2_with (go_at_call 56; refine hG.mono ?_; rintro e w1 ⟨v1, rfl, hown1, hbel1⟩)
   go_loopw [6, 8, 27] (fun v s i wr => ∃ k2 : Nat, k2 ≤ k ∧ i = .int .i64 k2 ∧ wr.ownsRow w.heap.size 9 1 v (ls.take k2).flatten.length ((ls.take k2).flatten.map encStr) ∧ Below w.heap.size w wr) (fun _ _ i _ => k - (intOf i).toNat)
   case atStart => exact ⟨0, Nat.zero_le _, rfl, hown1, hbel1⟩
   case round =>
    clear hown1 hbel1 hG
    obtain ⟨k2, hk2, rfl, hown, hbel⟩ := hrel
    have HW := hid hown
    have HL := hid hbel
    by_cases hlt2 : k2 < k
    ·have j1 : Hid (k2 < vs.length) := hid (by omega)
     have j2 : Hid (k2 < ls.length) := hid (by omega)
     have hrd := (HR.out k2 j1.out j2.out).below HL.out
     obtain ⟨a, cp, hv, hcp, hcm, hcells⟩ := hrd
     have hcell := (HL.out.cell (p := ⟨b, o + k2, none⟩) hb).trans (HC.out k2 j1.out)
     rw [hv] at hcell
     have HS := hid (flat_succ j2.out)
     have HLn := hid (Nat.le_trans (Nat.le_of_eq (flat_len j2.out).symm) (flat_le ls (k2 + 1)))
     have HCells := hid hcells
     clear hv hcells hbel
     generalize (ls[k2]'j2.out) = l1 at hcp hcell HCells HS HLn
     obtain ⟨n1, hn1⟩ : ∃ n1, n1 = l1.length := ⟨_, rfl⟩
     obtain ⟨T, hT⟩ : ∃ T, T = (ls.take k2).flatten.length := ⟨_, rfl⟩
     rw [← hn1] at hcp hcell
     rw [← hT] at hown
     have Hn1 := hid hn1
     have HT2 := hid hT
     obtain ⟨X, hX⟩ : ∃ X, X = (ls.take k2).flatten.map encStr := ⟨_, rfl⟩
     rw [← hX] at hown
     have HX := hid hX
     obtain ⟨N1, hN1⟩ : ∃ N1, N1 = l1.map encStr := ⟨_, rfl⟩
     have HN1 := hid hN1
     clear hn1 hT hX hN1
     by_cases hnone : a = none
     ·subst hnone
      have h0 : n1 = 0 ∧ cp = 0 := by
       rcases HCells.out with ⟨h0, hcp0⟩ | ⟨b', o', he, _⟩
       ·exact ⟨by rw [Hn1.out, h0]; rfl, hcp0 rfl⟩
       ·cases he
      obtain ⟨rfl, rfl⟩ := h0
      go_wp2_with (at_builtin; refine wpList_append_own_none rfl _ _ 22 rfl w.heap.size 9 i0 1 Tryz.underlying22 hi _ _ _ rfl hown rfl ?_)
      go_roundw
      case rel =>
       refine ⟨k2 + 1, by omega, by go_num, ?_, HL.out⟩
       rw [HS.out, List.length_eq_zero_iff.1 Hn1.out.symm, List.append_nil]
       exact HW.out
      case measure => simp [intOf]; omega
     ·obtain ⟨ad, rfl⟩ : ∃ ad, a = some ad := by
       cases a with
       | none => exact absurd rfl hnone
       | some ad => exact ⟨ad, rfl⟩
      clear hnone
      go_wp2_with (at_builtin; refine wpList_append_own _ rfl _ _ 22 rfl w.heap.size 9 i0 _ 1 16 Tryz.underlying22 hi hz0 hz1 hz2 rfl (by decide) _ _ _ rfl hown ad n1 cp N1 rfl ?c1 ?c2 ?c3 ?c4 ?c5 ?c6 ?_)
      case c1 => rw [HN1.out, List.length_map, Hn1.out, Nat.mul_one]
      case c2 =>
       intro j u hj
       rw [HN1.out] at hj
       obtain ⟨x, hx, rfl⟩ : ∃ x, l1[j]? = some x ∧ encStr x = u := by
        rw [List.getElem?_map] at hj
        cases hx : l1[j]? with
        | none => rw [hx] at hj; cases hj
        | some x => rw [hx] at hj; exact ⟨x, rfl, by simpa using hj⟩
       obtain ⟨hjl, rfl⟩ := List.getElem?_eq_some_iff.1 hx
       rcases HCells.out with ⟨rfl, _⟩ | ⟨b', o', he, _, h5⟩
       ·exact absurd hjl (Nat.not_lt_zero _)
       ·obtain rfl : ad = ⟨b', o', none⟩ := Option.some.inj he
        have := h5 j hjl
        rw [add_plain]
        exact this
      case c3 => intro u hu; rw [HN1.out] at hu; obtain ⟨x, _, rfl⟩ := List.mem_map.1 hu; rfl
      case c4 => have := HLn.out; have := HB.out; have := Hn1.out; have := HT2.out; unfold maxLen; omega
      case c5 => have := HLn.out; have := HB.out; have := Hn1.out; have := HT2.out; omega
      case c6 => exact HL.out.size
      ·intro v' w2 hown' hgrow _
       have HW2 := hid hown'
       have HG2 := hid hgrow
       clear hown' hgrow
       go_wp2
       go_roundw
       case rel =>
        refine ⟨k2 + 1, by omega, by go_num, ?_, HL.out.grown HG2.out HL.out.size ?_⟩
        ·have := HW2.out
         rw [HS.out, List.length_append, List.map_append, ← Hn1.out, ← HT2.out, ← HX.out, ← HN1.out]
         exact this
        ·intro q hq
         rcases HW.out.2 with ⟨h0, _⟩ | ⟨g, cap', cur, h0, hge, _⟩
         ·rw [h0] at hq; cases hq
         ·rw [h0] at hq; cases hq; exact hge
       case measure => simp [intOf]; omega
    ·obtain rfl : k2 = k := by omega
     have hall : (ls.take k2).flatten = ls.flatten := by rw [← hm, List.take_length]
     rw [hall, ← HT.out] at hown
     clear HW
     have HW := hid hown
     go_wp2
     go_ret
     refine ⟨_, rfl, ?_, HL.out⟩
     rw [← HT.out]
     exact HW.out
end
section
open Go.RowKit Go.Sort
open Nw Go.ChangeShapes Go.WideShapes
theorem owns_nil_s {w : World} {base n : Nat} {e : TypeId} {l : List L8} (h : w.ownsRow base e 1 (.slice none 0 0) n (l.map encStr)) : n = 0 ∧ l = [] := by
 have hl : l.length = n := by simpa using h.1
 rcases h.2 with ⟨_, h0⟩ | ⟨g, cap, cur, h0, _⟩
 ·subst h0; exact ⟨rfl, List.length_eq_zero_iff.1 hl⟩
 ·cases h0
theorem settled_any (v : Value) (l : List L8) (n base : Nat) (w : World) (h : w.ownsRow base 9 1 v n (l.map encStr)) (hb : base ≤ w.heap.size) (hbig : l.length ≤ 4398046511103) :
  Calls Tryz.prog 40 #[v] w fun e w' => ∃ v', e = .returned v' ∧ w'.ownsRow base 9 1 v' (sortL l).length ((sortL l).map encStr) ∧ Below base w w' := by
 by_cases hv : v = .slice none 0 0
 ·subst hv
  obtain ⟨rfl, rfl⟩ := owns_nil_s h
  have HN := hid sortL_nil
  have hS := Tryz.slices_Sort_string_none none 0 w
  have hC := Tryz.slices_Compact_string_empty none 0 w
  clear h
  go_enter Tryz.func40, Tryz.ntmps40
  go_wp2_with (first | (go_at_call 54; refine hS.mono ?_; rintro e w1 ⟨rfl, hw⟩; obtain rfl := hw) | (go_at_call 55; refine hC.mono ?_; rintro e w2 ⟨rfl, rfl⟩))
  go_ret
  refine ⟨_, rfl, ?_, Below.refl _ _⟩
  rw [HN.out]
  exact ⟨rfl, .inl ⟨rfl, rfl⟩⟩
 ·obtain ⟨g, cap, rfl, hbg, hg, h1, h2, hl, hH⟩ := Lib.holds_of_ownsRow h hv
  subst hl
  obtain ⟨cur, hblk, hcs⟩ : ∃ cur, w.heap[g]? = some (.cells cur 9 (0, 0)) ∧ cur.size = cap * 1 := by
   rcases h.2 with ⟨e0, _⟩ | ⟨g', cap', cur, e0, _, hgg, _, _, hs, _⟩
   ·exact absurd e0 hv
   ·injection e0 with e1 _ e3
    injection e1 with e1
    injection e1 with e1
    subst e1; subst e3
    exact ⟨cur, hgg, hs⟩
  obtain ⟨S, hS⟩ : ∃ S, S = l.mergeSort fun x y => decide (x ≤ y) := ⟨_, rfl⟩
  have hSl : S.length = l.length := by rw [hS, List.length_mergeSort]
  have hsort := Tryz.slices_Sort_string g 0 cap l w hH hg (by omega)
  rw [← hS] at hsort
  have hR : Hid (sortL l = Lib.compact S) := hid (by rw [hS]; rfl)
  have hcon : ∀ (nn : Nat) (os : Array Obj), (grow (putRow encStr (Sort.ahead w nn) g 0 S.toArray) os).ownsRow base 9 1 (.slice (some ⟨g, 0, none⟩) l.length cap) l.length (S.map encStr) ∧
    Calls Tryz.prog 55 #[.slice (some ⟨g, 0, none⟩) l.length cap] (grow (putRow encStr (Sort.ahead w nn) g 0 S.toArray) os) fun e w' => e = .returned (.slice (some ⟨g, 0, none⟩) (Lib.compact S).length cap) ∧
     w'.ownsRow base 9 1 (.slice (some ⟨g, 0, none⟩) (Lib.compact S).length cap) (Lib.compact S).length ((Lib.compact S).map encStr) ∧ Below base w w' := by
   intro nn os
   have ho := ownsRow_sorted (n := nn) (os := os) (ts := S) hSl hbg hblk h1 h2 hcs
   refine ⟨ho, ?_⟩
   obtain ⟨g', cap', e0, _, _, _, _, _, hH2⟩ := Lib.holds_of_ownsRow ho (by simp)
   injection e0 with e1 _ e3
   injection e1 with e1
   injection e1 with e1
   subst e1; subst e3
   have hc := Tryz.slices_Compact_string g 0 cap S _ hH2 (by omega) (by omega)
   rw [hSl] at hc
   refine hc.mono ?_
   rintro e w' ⟨rfl, q, rfl⟩
   have hle := Lib.compact_length_le S
   have hc2 := Lib.ownsRow_putRow (q := q) (k := (Lib.compact S).length) (ys := Lib.compact S ++ List.replicate (l.length - (Lib.compact S).length) []) ho (by simp; omega) (by omega)
   rw [List.take_left] at hc2
   exact ⟨rfl, hc2, Lib.below_putRow ((Below.refl base w).grown (grownBy_sorted _) hb (fun j hj => by cases hj; exact hbg)) hbg⟩
  have HC := hid hcon
  rw [hR.out]
  obtain ⟨K, hK⟩ : ∃ K, K = (Lib.compact S).length := ⟨_, rfl⟩
  clear h hv hH hblk hcs hcon hR hS
  rw [← hK] at HC ⊢
  generalize (Lib.compact S).map encStr = X at HC ⊢
  clear hK
  generalize l.length = n at *
  go_enter Tryz.func40, Tryz.ntmps40
  go_wp2_with (first | (go_at_call 54; refine hsort.mono ?_; rintro e w1 ⟨rfl, nn, os, hw⟩; have hC := (HC.out nn os).2; rw [← hw] at hC; clear hw hsort) | (go_at_call 55; refine hC.mono ?_; rintro e w2 ⟨rfl, hown, hbel⟩))
  go_ret
  exact ⟨_, rfl, hown, hbel⟩
theorem Sorted_own (v : Value) (l : List L8) (w : World) (h : Rd w v l) (hbig : l.length ≤ 4398046511103) :
  Calls Tryz.prog 24 #[v] w fun e w' => ∃ v', e = .returned v' ∧ w'.ownsRow w.heap.size 9 1 v' (sortL l).length ((sortL l).map encStr) ∧ Below w.heap.size w w' := by
 have HC : Hid (∀ W : World, Below w.heap.size w W → W.heap.size = w.heap.size + 1 → W.cell? ⟨w.heap.size, 0, none⟩ = some v →
   Calls Tryz.prog 41 #[.slice (some ⟨w.heap.size, 0, none⟩) 1 1] W fun e w' => ∃ v, e = .returned v ∧ w'.ownsRow w.heap.size 9 1 v l.length (l.map encStr) ∧ Below w.heap.size w w') := hid (by
  intro W hb hs hc
  have := Concat_any w.heap.size 0 1 1 [v] [l] W rfl rfl (Nat.le_refl _) (by omega) (by omega) (fun j hj => by
   have h0 : j = 0 := by simpa using hj
   subst h0; exact hc) (fun j hj hj' => by
   have h0 : j = 0 := by simpa using hj
   subst h0; exact h.below hb) (by simpa using hbig)
  refine this.mono ?_
  rintro e w' ⟨u, rfl, ho, hb2⟩
  simp only [List.flatten_cons, List.flatten_nil, List.append_nil] at ho
  exact ⟨u, rfl, owns_low ho (by omega), hb.trans (hb2.mono (by omega))⟩)
 have HB := hid hbig
 obtain ⟨a, cap, rfl, h1, h2, h3⟩ := h
 clear h3 hbig
 have HSet := hid fun (v1 : Value) (w1 : World) ho hb => settled_any v1 l l.length w.heap.size w1 ho hb HB.out
 generalize (sortL l).length = n1 at HSet ⊢
 generalize (sortL l).map encStr = X at HSet ⊢
 go_enter Tryz.func24, Tryz.ntmps24
 go_wp2_with (go_at_call 41; refine (HC.out _ ((Below.refl _ _).alloc (Nat.le_refl _) _) (by simp) (by simp)).mono ?_; rintro e w1 ⟨v1, rfl, hown, hbel⟩; have hset := HSet.out v1 w1 hown hbel.size; clear hown; have HL := hid hbel; clear hbel)
 go_wp2_with (go_at_call 40; refine hset.mono ?_; rintro e w2 ⟨v2, rfl, hown2, hbel2⟩)
 go_ret
 exact ⟨_, rfl, hown2, HL.out.trans hbel2⟩
end
end Go.Proofs.YtkcilmmaggmmoaaGreatDoor
