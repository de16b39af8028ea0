/- NodConcat -/
import Derived.Laws.AppendOwnNone
import Derived.Test.YtkcilmmaggmmoaaDoorGT11
import Derived.Test.YtkcilmmaggmmoaaDoorGT23
import Derived.Test.YtkcilmmaggmmoaaDoorGT36
set_option linter.unusedVariables false
set_option linter.unusedSimpArgs false
set_option maxRecDepth 100000
set_option maxHeartbeats 16000000
open Go.Lib (hid)
namespace Go.Proofs.YtkcilmmaggmmoaaDoor
namespace Nw
end Nw
end Go.Proofs.YtkcilmmaggmmoaaDoor
namespace Go.Proofs.YtkcilmmaggmmoaaDoor
section
open Go.RowKit Go.Sort
open Nw Go.ChangeShapes Go.WideShapes
theorem Grow_nil (n : Nat) (w : World) (hn : n ≤ 8796093022207) :
  Calls Tryd.prog 58 #[.slice none 0 0, .int .i64 n] w fun e w' => ∃ v, e = .returned v ∧ w'.ownsRow w.heap.size 9 1 v 0 [] ∧ Below w.heap.size w w' := by
 by_cases h0 : n = 0
 ·subst h0
  refine (Tryd.slices_Grow_room none 0 0 0 w (Nat.le_refl _) (by omega) (by omega) (by omega)).mono ?_
  rintro e w' ⟨rfl, rfl⟩
  exact ⟨_, rfl, ⟨rfl, .inl ⟨rfl, rfl⟩⟩, Below.refl _ _⟩
 ·obtain ⟨i, hi, hz, hs, hby⟩ := infoS
  refine (Tryd.slices_Grow_grow i _ hi hz (by omega) none 0 0 n [] w (Nat.le_refl _) (by omega) (by rw [hby]; omega) (by omega) (by simp) (fun _ => rfl) (fun a h => by cases h)).mono ?_
  rintro e w' ⟨rfl, rfl⟩
  have hG := grownCap_ge w (0 + n) 0 9
  have hGm := grownCap_le_maxLen w (0 + n) 0 9 (by unfold maxLen; omega)
  refine ⟨_, rfl, ⟨rfl, .inr ⟨w.heap.size, _, ?cur, rfl, Nat.le_refl _, ?h, Nat.zero_le _, hGm, ?sz, ?tk⟩⟩, (Below.refl _ _).drew.alloc (Nat.le_refl _) _⟩
  case h => exact Array.getElem?_push_size (xs := w.heap)
  case tk => exact List.take_zero
  case sz =>
   simp only [Nat.zero_add] at hG
   simp [size_zeroCells, Value.cells]
   omega
theorem flat_succ {ls : List (List L8)} {k : Nat} (h : k < ls.length) : (ls.take (k + 1)).flatten = (ls.take k).flatten ++ ls[k] := by
 rw [List.take_succ_eq_append_getElem h, List.flatten_append]; simp
theorem flat_len {ls : List (List L8)} {k : Nat} (h : k < ls.length) : (ls.take (k + 1)).flatten.length = (ls.take k).flatten.length + ls[k].length := by rw [flat_succ h, List.length_append]
theorem flat_le (ls : List (List L8)) (k : Nat) : (ls.take k).flatten.length ≤ ls.flatten.length := by
 conv => rhs; rw [← List.take_append_drop k ls, List.flatten_append, List.length_append]
 omega
theorem Concat_any (b o m cap : Nat) (vs : List Value) (ls : List (List L8)) (w : World) (hm : ls.length = m) (hvs : vs.length = m) (hcap : m ≤ cap) (hc63 : cap ≤ 9223372036854775807) (hb : b < w.heap.size)
  (hc : ∀ j (h : j < vs.length), w.cell? ⟨b, o + j, none⟩ = some vs[j]) (hr : ∀ j (h : j < vs.length) (h' : j < ls.length), Rd w vs[j] ls[j]) (hbig : ls.flatten.length ≤ 4398046511103) :
  Calls Tryd.prog 40 #[.slice (some ⟨b, o, none⟩) m cap] w fun e w' => ∃ v, e = .returned v ∧ w'.ownsRow w.heap.size 9 1 v ls.flatten.length (ls.flatten.map encStr) ∧ Below w.heap.size w w' := by
 obtain ⟨i0, hi, hz0, hz1, hz2⟩ := infoS
 have HC := hid hc
 have HR := hid hr
 have HB := hid hbig
 clear hc hr hbig
 go_enter Tryd.func40, Tryd.ntmps40
 go_wp2
 go_loop [3, 5, 11] (fun n s i => ∃ k : Nat, k ≤ m ∧ i = .int .i64 k ∧ n = .int .i64 (ls.take k).flatten.length) (fun _ _ i => m - (intOf i).toNat)
 case atStart => exact ⟨0, Nat.zero_le _, rfl, rfl⟩
 case round =>
  obtain ⟨k, hk, rfl, rfl⟩ := hrel
  have hle := flat_le ls k
  by_cases hlt : k < m
  ·have hk1 : Hid (k < vs.length) := hid (by omega)
   have hk2 : Hid (k < ls.length) := hid (by omega)
   obtain ⟨a, cp, hv, hcp, hcm, _⟩ := HR.out k hk1.out hk2.out
   have hcell := HC.out k hk1.out
   rw [hv] at hcell
   have hsum := flat_len hk2.out
   have hle2 := flat_le ls (k + 1)
   have hbb := HB.out
   have HS : Hid ((ls.take (k + 1)).flatten.length = (ls.take k).flatten.length + (ls[k]'hk2.out).length) := hid hsum
   clear hsum hv
   rw [HS.out] at hle2
   generalize (ls.take k).flatten.length = T at hle hle2 HS ⊢
   generalize (ls[k]'hk2.out).length = n1 at hcp hcell hle2 HS
   generalize ls.flatten.length = TT at hle hle2 hbb HB ⊢
   go_wp2
   go_round
   case rel => exact ⟨k + 1, by omega, by go_num, by rw [HS.out]; go_num⟩
   case measure => simp [intOf]; omega
  ·obtain rfl : k = m := by omega
   have hall : (ls.take k).flatten = ls.flatten := by rw [← hm, List.take_length]
   rw [hall]
   have hG := Grow_nil ls.flatten.length w (by have := HB.out; omega)
   clear hall hle
   obtain ⟨TT, HT⟩ : ∃ TT, Hid (TT = ls.flatten.length) := ⟨_, rfl⟩
   rw [← HT.out] at hG ⊢
   go_wp2_with (go_at_call 58; refine hG.mono ?_; rintro e w1 ⟨v1, rfl, hown1, hbel1⟩)
   go_loopw [6, 8, 27] (fun v s i wr => ∃ k2 : Nat, k2 ≤ k ∧ i = .int .i64 k2 ∧ wr.ownsRow w.heap.size 9 1 v (ls.take k2).flatten.length ((ls.take k2).flatten.map encStr) ∧ Below w.heap.size w wr) (fun _ _ i _ => k - (intOf i).toNat)
   case atStart => exact ⟨0, Nat.zero_le _, rfl, hown1, hbel1⟩
   case round =>
    clear hown1 hbel1 hG
    obtain ⟨k2, hk2, rfl, hown, hbel⟩ := hrel
    have HW := hid hown
    have HL := hid hbel
    by_cases hlt2 : k2 < k
    ·have j1 : Hid (k2 < vs.length) := hid (by omega)
     have j2 : Hid (k2 < ls.length) := hid (by omega)
     have hrd := (HR.out k2 j1.out j2.out).below HL.out
     obtain ⟨a, cp, hv, hcp, hcm, hcells⟩ := hrd
     have hcell := (HL.out.cell (p := ⟨b, o + k2, none⟩) hb).trans (HC.out k2 j1.out)
     rw [hv] at hcell
     have HS := hid (flat_succ j2.out)
     have HLn := hid (Nat.le_trans (Nat.le_of_eq (flat_len j2.out).symm) (flat_le ls (k2 + 1)))
     have HCells := hid hcells
     clear hv hcells hbel
     generalize (ls[k2]'j2.out) = l1 at hcp hcell HCells HS HLn
     obtain ⟨n1, hn1⟩ : ∃ n1, n1 = l1.length := ⟨_, rfl⟩
     obtain ⟨T, hT⟩ : ∃ T, T = (ls.take k2).flatten.length := ⟨_, rfl⟩
     rw [← hn1] at hcp hcell
     rw [← hT] at hown
     have Hn1 := hid hn1
     have HT2 := hid hT
     obtain ⟨X, hX⟩ : ∃ X, X = (ls.take k2).flatten.map encStr := ⟨_, rfl⟩
     rw [← hX] at hown
     have HX := hid hX
     obtain ⟨N1, hN1⟩ : ∃ N1, N1 = l1.map encStr := ⟨_, rfl⟩
     have HN1 := hid hN1
     clear hn1 hT hX hN1
     by_cases hnone : a = none
     ·subst hnone
      have h0 : n1 = 0 ∧ cp = 0 := by
       rcases HCells.out with ⟨h0, hcp0⟩ | ⟨b', o', he, _⟩
       ·exact ⟨by rw [Hn1.out, h0]; rfl, hcp0 rfl⟩
       ·cases he
      obtain ⟨rfl, rfl⟩ := h0
      go_wp2_with (at_builtin; refine wpList_append_own_none rfl _ _ 39 rfl w.heap.size 9 i0 1 Tryd.underlying39 hi _ _ _ rfl hown rfl ?_)
      go_roundw
      case rel =>
       refine ⟨k2 + 1, by omega, by go_num, ?_, HL.out⟩
       rw [HS.out, List.length_eq_zero_iff.1 Hn1.out.symm, List.append_nil]
       exact HW.out
      case measure => simp [intOf]; omega
     ·obtain ⟨ad, rfl⟩ : ∃ ad, a = some ad := by
       cases a with
       | none => exact absurd rfl hnone
       | some ad => exact ⟨ad, rfl⟩
      clear hnone
      go_wp2_with (at_builtin; refine wpList_append_own _ rfl _ _ 39 rfl w.heap.size 9 i0 _ 1 16 Tryd.underlying39 hi hz0 hz1 hz2 rfl (by decide) _ _ _ rfl hown ad n1 cp N1 rfl ?c1 ?c2 ?c3 ?c4 ?c5 ?c6 ?_)
      case c1 => rw [HN1.out, List.length_map, Hn1.out, Nat.mul_one]
      case c2 =>
       intro j u hj
       rw [HN1.out] at hj
       obtain ⟨x, hx, rfl⟩ : ∃ x, l1[j]? = some x ∧ encStr x = u := by
        rw [List.getElem?_map] at hj
        cases hx : l1[j]? with
        | none => rw [hx] at hj; cases hj
        | some x => rw [hx] at hj; exact ⟨x, rfl, by simpa using hj⟩
       obtain ⟨hjl, rfl⟩ := List.getElem?_eq_some_iff.1 hx
       rcases HCells.out with ⟨rfl, _⟩ | ⟨b', o', he, _, h5⟩
       ·exact absurd hjl (Nat.not_lt_zero _)
       ·obtain rfl : ad = ⟨b', o', none⟩ := Option.some.inj he
        have := h5 j hjl
        rw [add_plain]
        exact this
      case c3 => intro u hu; rw [HN1.out] at hu; obtain ⟨x, _, rfl⟩ := List.mem_map.1 hu; rfl
      case c4 => have := HLn.out; have := HB.out; have := Hn1.out; have := HT2.out; unfold maxLen; omega
      case c5 => have := HLn.out; have := HB.out; have := Hn1.out; have := HT2.out; omega
      case c6 => exact HL.out.size
      ·intro v' w2 hown' hgrow _
       have HW2 := hid hown'
       have HG2 := hid hgrow
       clear hown' hgrow
       go_wp2
       go_roundw
       case rel =>
        refine ⟨k2 + 1, by omega, by go_num, ?_, HL.out.grown HG2.out HL.out.size ?_⟩
        ·have := HW2.out
         rw [HS.out, List.length_append, List.map_append, ← Hn1.out, ← HT2.out, ← HX.out, ← HN1.out]
         exact this
        ·intro q hq
         rcases HW.out.2 with ⟨h0, _⟩ | ⟨g, cap', cur, h0, hge, _⟩
         ·rw [h0] at hq; cases hq
         ·rw [h0] at hq; cases hq; exact hge
       case measure => simp [intOf]; omega
    ·obtain rfl : k2 = k := by omega
     have hall : (ls.take k2).flatten = ls.flatten := by rw [← hm, List.take_length]
     rw [hall, ← HT.out] at hown
     clear HW
     have HW := hid hown
     go_wp2
     go_ret
     refine ⟨_, rfl, ?_, HL.out⟩
     rw [← HT.out]
     exact HW.out
end
end Go.Proofs.YtkcilmmaggmmoaaDoor
