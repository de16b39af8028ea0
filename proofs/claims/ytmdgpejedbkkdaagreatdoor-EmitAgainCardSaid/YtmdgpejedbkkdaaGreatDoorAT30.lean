/- NodConcat, NodSorted, FloTwc -/
import Derived.Laws.AppendOwnNone
import Derived.LoopIn
import Derived.LoopNIn
import Derived.Maps.AppendAt
import Derived.OwnWalkIn
import Derived.RangeFuncBox
import Derived.RangeFuncFrom
import Derived.RangeFuncLeaves
import Derived.Shelf.Abstract
import Derived.TacticsInMore
import Derived.Test.YtmdgpejedbkkdaaGreatDoorAT11
import Derived.Test.YtmdgpejedbkkdaaGreatDoorAT19
import Derived.Test.YtmdgpejedbkkdaaGreatDoorAT20
import Derived.Test.YtmdgpejedbkkdaaGreatDoorAT26
import Derived.Test.YtmdgpejedbkkdaaGreatDoorAT27
import Derived.Test.YtmdgpejedbkkdaaGreatDoorAT9
set_option linter.unusedVariables false
set_option linter.unusedSimpArgs false
set_option maxRecDepth 100000
set_option maxHeartbeats 16000000
open Go.Lib (hid)
namespace Go.Proofs.YtmdgpejedbkkdaaGreatDoor
section
open Go.RowKit Go.Sort
open Nw Go.ChangeShapes Go.WideShapes
theorem Grow_nil (n : Nat) (w : World) (hn : n ≤ 8796093022207) :
  Calls Tryz.prog 159 #[.slice none 0 0, .int .i64 n] w fun e w' => ∃ v, e = .returned v ∧ w'.ownsRow w.heap.size 9 1 v 0 [] ∧ Below w.heap.size w w' := by
 by_cases h0 : n = 0
 ·subst h0
  refine (Tryz.slices_Grow_room none 0 0 0 w (Nat.le_refl _) (by omega) (by omega) (by omega)).mono ?_
  rintro e w' ⟨rfl, rfl⟩
  exact ⟨_, rfl, ⟨rfl, .inl ⟨rfl, rfl⟩⟩, Below.refl _ _⟩
 ·obtain ⟨i, hi, hz, hs, hby⟩ := infoS
  refine (Tryz.slices_Grow_grow i _ hi hz (by omega) none 0 0 n [] w (Nat.le_refl _) (by omega) (by rw [hby]; omega) (by omega) (by simp) (fun _ => rfl) (fun a h => by cases h)).mono ?_
  rintro e w' ⟨rfl, rfl⟩
  have hG := grownCap_ge w (0 + n) 0 9
  have hGm := grownCap_le_maxLen w (0 + n) 0 9 (by unfold maxLen; omega)
  refine ⟨_, rfl, ⟨rfl, .inr ⟨w.heap.size, _, ?cur, rfl, Nat.le_refl _, ?h, Nat.zero_le _, hGm, ?sz, ?tk⟩⟩, (Below.refl _ _).drew.alloc (Nat.le_refl _) _⟩
  case h => exact Array.getElem?_push_size (xs := w.heap)
  case tk => exact List.take_zero
  case sz =>
   simp only [Nat.zero_add] at hG
   simp [size_zeroCells, Value.cells]
   omega
theorem flat_succ {ls : List (List L8)} {k : Nat} (h : k < ls.length) : (ls.take (k + 1)).flatten = (ls.take k).flatten ++ ls[k] := by
 rw [List.take_succ_eq_append_getElem h, List.flatten_append]; simp
theorem flat_len {ls : List (List L8)} {k : Nat} (h : k < ls.length) : (ls.take (k + 1)).flatten.length = (ls.take k).flatten.length + ls[k].length := by rw [flat_succ h, List.length_append]
theorem flat_le (ls : List (List L8)) (k : Nat) : (ls.take k).flatten.length ≤ ls.flatten.length := by
 conv => rhs; rw [← List.take_append_drop k ls, List.flatten_append, List.length_append]
 omega
theorem Concat_any (b o m cap : Nat) (vs : List Value) (ls : List (List L8)) (w : World) (hm : ls.length = m) (hvs : vs.length = m) (hcap : m ≤ cap) (hc63 : cap ≤ 9223372036854775807) (hb : b < w.heap.size)
  (hc : ∀ j (h : j < vs.length), w.cell? ⟨b, o + j, none⟩ = some vs[j]) (hr : ∀ j (h : j < vs.length) (h' : j < ls.length), Rd w vs[j] ls[j]) (hbig : ls.flatten.length ≤ 4398046511103) :
  Calls Tryz.prog 145 #[.slice (some ⟨b, o, none⟩) m cap] w fun e w' => ∃ v, e = .returned v ∧ w'.ownsRow w.heap.size 9 1 v ls.flatten.length (ls.flatten.map encStr) ∧ Below w.heap.size w w' := by
 obtain ⟨i0, hi, hz0, hz1, hz2⟩ := infoS
 have HC := hid hc
 have HR := hid hr
 have HB := hid hbig
 clear hc hr hbig
 go_enter Tryz.func145, Tryz.ntmps145
 go_wp2
 go_loop [3, 5, 11] (fun n s i => ∃ k : Nat, k ≤ m ∧ i = .int .i64 k ∧ n = .int .i64 (ls.take k).flatten.length) (fun _ _ i => m - (intOf i).toNat)
 case atStart => exact ⟨0, Nat.zero_le _, rfl, rfl⟩
 case round =>
  obtain ⟨k, hk, rfl, rfl⟩ := hrel
  have hle := flat_le ls k
  by_cases hlt : k < m
  ·have hk1 : Hid (k < vs.length) := hid (by omega)
   have hk2 : Hid (k < ls.length) := hid (by omega)
   obtain ⟨a, cp, hv, hcp, hcm, _⟩ := HR.out k hk1.out hk2.out
   have hcell := HC.out k hk1.out
   rw [hv] at hcell
   have hsum := flat_len hk2.out
   have hle2 := flat_le ls (k + 1)
   have hbb := HB.out
   have HS : Hid ((ls.take (k + 1)).flatten.length = (ls.take k).flatten.length + (ls[k]'hk2.out).length) := hid hsum
   clear hsum hv
   rw [HS.out] at hle2
   generalize (ls.take k).flatten.length = T at hle hle2 HS ⊢
   generalize (ls[k]'hk2.out).length = n1 at hcp hcell hle2 HS
   generalize ls.flatten.length = TT at hle hle2 hbb HB ⊢
   go_wp2
   go_round
   case rel => exact ⟨k + 1, by omega, by go_num, by rw [HS.out]; go_num⟩
   case measure => simp [intOf]; omega
  ·obtain rfl : k = m := by omega
   have hall : (ls.take k).flatten = ls.flatten := by rw [← hm, List.take_length]
   rw [hall]
   have hG := Grow_nil ls.flatten.length w (by have := HB.out; omega)
   clear hall hle
   obtain ⟨TT, HT⟩ : ∃ TT, Hid (TT = ls.flatten.length) := ⟨_, rfl⟩
   rw [← HT.out] at hG ⊢
   go_wp2_with (go_at_call 159; refine hG.mono ?_; rintro e w1 ⟨v1, rfl, hown1, hbel1⟩)
   go_loopw [6, 8, 27] (fun v s i wr => ∃ k2 : Nat, k2 ≤ k ∧ i = .int .i64 k2 ∧ wr.ownsRow w.heap.size 9 1 v (ls.take k2).flatten.length ((ls.take k2).flatten.map encStr) ∧ Below w.heap.size w wr) (fun _ _ i _ => k - (intOf i).toNat)
   case atStart => exact ⟨0, Nat.zero_le _, rfl, hown1, hbel1⟩
   case round =>
    clear hown1 hbel1 hG
    obtain ⟨k2, hk2, rfl, hown, hbel⟩ := hrel
    have HW := hid hown
    have HL := hid hbel
    by_cases hlt2 : k2 < k
    ·have j1 : Hid (k2 < vs.length) := hid (by omega)
     have j2 : Hid (k2 < ls.length) := hid (by omega)
     have hrd := (HR.out k2 j1.out j2.out).below HL.out
     obtain ⟨a, cp, hv, hcp, hcm, hcells⟩ := hrd
     have hcell := (HL.out.cell (p := ⟨b, o + k2, none⟩) hb).trans (HC.out k2 j1.out)
     rw [hv] at hcell
     have HS := hid (flat_succ j2.out)
     have HLn := hid (Nat.le_trans (Nat.le_of_eq (flat_len j2.out).symm) (flat_le ls (k2 + 1)))
     have HCells := hid hcells
     clear hv hcells hbel
     generalize (ls[k2]'j2.out) = l1 at hcp hcell HCells HS HLn
     obtain ⟨n1, hn1⟩ : ∃ n1, n1 = l1.length := ⟨_, rfl⟩
     obtain ⟨T, hT⟩ : ∃ T, T = (ls.take k2).flatten.length := ⟨_, rfl⟩
     rw [← hn1] at hcp hcell
     rw [← hT] at hown
     have Hn1 := hid hn1
     have HT2 := hid hT
     obtain ⟨X, hX⟩ : ∃ X, X = (ls.take k2).flatten.map encStr := ⟨_, rfl⟩
     rw [← hX] at hown
     have HX := hid hX
     obtain ⟨N1, hN1⟩ : ∃ N1, N1 = l1.map encStr := ⟨_, rfl⟩
     have HN1 := hid hN1
     clear hn1 hT hX hN1
     by_cases hnone : a = none
     ·subst hnone
      have h0 : n1 = 0 ∧ cp = 0 := by
       rcases HCells.out with ⟨h0, hcp0⟩ | ⟨b', o', he, _⟩
       ·exact ⟨by rw [Hn1.out, h0]; rfl, hcp0 rfl⟩
       ·cases he
      obtain ⟨rfl, rfl⟩ := h0
      go_wp2_with (at_builtin; refine wpList_append_own_none rfl _ _ 22 rfl w.heap.size 9 i0 1 Tryz.underlying22 hi _ _ _ rfl hown rfl ?_)
      go_roundw
      case rel =>
       refine ⟨k2 + 1, by omega, by go_num, ?_, HL.out⟩
       rw [HS.out, List.length_eq_zero_iff.1 Hn1.out.symm, List.append_nil]
       exact HW.out
      case measure => simp [intOf]; omega
     ·obtain ⟨ad, rfl⟩ : ∃ ad, a = some ad := by
       cases a with
       | none => exact absurd rfl hnone
       | some ad => exact ⟨ad, rfl⟩
      clear hnone
      go_wp2_with (at_builtin; refine wpList_append_own _ rfl _ _ 22 rfl w.heap.size 9 i0 _ 1 16 Tryz.underlying22 hi hz0 hz1 hz2 rfl (by decide) _ _ _ rfl hown ad n1 cp N1 rfl ?c1 ?c2 ?c3 ?c4 ?c5 ?c6 ?_)
      case c1 => rw [HN1.out, List.length_map, Hn1.out, Nat.mul_one]
      case c2 =>
       intro j u hj
       rw [HN1.out] at hj
       obtain ⟨x, hx, rfl⟩ : ∃ x, l1[j]? = some x ∧ encStr x = u := by
        rw [List.getElem?_map] at hj
        cases hx : l1[j]? with
        | none => rw [hx] at hj; cases hj
        | some x => rw [hx] at hj; exact ⟨x, rfl, by simpa using hj⟩
       obtain ⟨hjl, rfl⟩ := List.getElem?_eq_some_iff.1 hx
       rcases HCells.out with ⟨rfl, _⟩ | ⟨b', o', he, _, h5⟩
       ·exact absurd hjl (Nat.not_lt_zero _)
       ·obtain rfl : ad = ⟨b', o', none⟩ := Option.some.inj he
        have := h5 j hjl
        rw [add_plain]
        exact this
      case c3 => intro u hu; rw [HN1.out] at hu; obtain ⟨x, _, rfl⟩ := List.mem_map.1 hu; rfl
      case c4 => have := HLn.out; have := HB.out; have := Hn1.out; have := HT2.out; unfold maxLen; omega
      case c5 => have := HLn.out; have := HB.out; have := Hn1.out; have := HT2.out; omega
      case c6 => exact HL.out.size
      ·intro v' w2 hown' hgrow _
       have HW2 := hid hown'
       have HG2 := hid hgrow
       clear hown' hgrow
       go_wp2
       go_roundw
       case rel =>
        refine ⟨k2 + 1, by omega, by go_num, ?_, HL.out.grown HG2.out HL.out.size ?_⟩
        ·have := HW2.out
         rw [HS.out, List.length_append, List.map_append, ← Hn1.out, ← HT2.out, ← HX.out, ← HN1.out]
         exact this
        ·intro q hq
         rcases HW.out.2 with ⟨h0, _⟩ | ⟨g, cap', cur, h0, hge, _⟩
         ·rw [h0] at hq; cases hq
         ·rw [h0] at hq; cases hq; exact hge
       case measure => simp [intOf]; omega
    ·obtain rfl : k2 = k := by omega
     have hall : (ls.take k2).flatten = ls.flatten := by rw [← hm, List.take_length]
     rw [hall, ← HT.out] at hown
     clear HW
     have HW := hid hown
     go_wp2
     go_ret
     refine ⟨_, rfl, ?_, HL.out⟩
     rw [← HT.out]
     exact HW.out
end
section
open Go.RowKit Go.Sort
open Nw Go.ChangeShapes Go.WideShapes
theorem owns_nil_s {w : World} {base n : Nat} {e : TypeId} {l : List L8} (h : w.ownsRow base e 1 (.slice none 0 0) n (l.map encStr)) : n = 0 ∧ l = [] := by
 have hl : l.length = n := by simpa using h.1
 rcases h.2 with ⟨_, h0⟩ | ⟨g, cap, cur, h0, _⟩
 ·subst h0; exact ⟨rfl, List.length_eq_zero_iff.1 hl⟩
 ·cases h0
theorem settled_any (v : Value) (l : List L8) (n base : Nat) (w : World) (h : w.ownsRow base 9 1 v n (l.map encStr)) (hb : base ≤ w.heap.size) (hbig : l.length ≤ 4398046511103) :
  Calls Tryz.prog 144 #[v] w fun e w' => ∃ v', e = .returned v' ∧ w'.ownsRow base 9 1 v' (sortL l).length ((sortL l).map encStr) ∧ Below base w w' := by
 by_cases hv : v = .slice none 0 0
 ·subst hv
  obtain ⟨rfl, rfl⟩ := owns_nil_s h
  have HN := hid sortL_nil
  have hS := Tryz.slices_Sort_string_none none 0 w
  have hC := Tryz.slices_Compact_string_empty none 0 w
  clear h
  go_enter Tryz.func144, Tryz.ntmps144
  go_wp2_with (first | (go_at_call 157; refine hS.mono ?_; rintro e w1 ⟨rfl, hw⟩; obtain rfl := hw) | (go_at_call 158; refine hC.mono ?_; rintro e w2 ⟨rfl, rfl⟩))
  go_ret
  refine ⟨_, rfl, ?_, Below.refl _ _⟩
  rw [HN.out]
  exact ⟨rfl, .inl ⟨rfl, rfl⟩⟩
 ·obtain ⟨g, cap, rfl, hbg, hg, h1, h2, hl, hH⟩ := Lib.holds_of_ownsRow h hv
  subst hl
  obtain ⟨cur, hblk, hcs⟩ : ∃ cur, w.heap[g]? = some (.cells cur 9 (0, 0)) ∧ cur.size = cap * 1 := by
   rcases h.2 with ⟨e0, _⟩ | ⟨g', cap', cur, e0, _, hgg, _, _, hs, _⟩
   ·exact absurd e0 hv
   ·injection e0 with e1 _ e3
    injection e1 with e1
    injection e1 with e1
    subst e1; subst e3
    exact ⟨cur, hgg, hs⟩
  obtain ⟨S, hS⟩ : ∃ S, S = l.mergeSort fun x y => decide (x ≤ y) := ⟨_, rfl⟩
  have hSl : S.length = l.length := by rw [hS, List.length_mergeSort]
  have hsort := Tryz.slices_Sort_string g 0 cap l w hH hg (by omega)
  rw [← hS] at hsort
  have hR : Hid (sortL l = Lib.compact S) := hid (by rw [hS]; rfl)
  have hcon : ∀ (nn : Nat) (os : Array Obj), (grow (putRow encStr (Sort.ahead w nn) g 0 S.toArray) os).ownsRow base 9 1 (.slice (some ⟨g, 0, none⟩) l.length cap) l.length (S.map encStr) ∧
    Calls Tryz.prog 158 #[.slice (some ⟨g, 0, none⟩) l.length cap] (grow (putRow encStr (Sort.ahead w nn) g 0 S.toArray) os) fun e w' => e = .returned (.slice (some ⟨g, 0, none⟩) (Lib.compact S).length cap) ∧
     w'.ownsRow base 9 1 (.slice (some ⟨g, 0, none⟩) (Lib.compact S).length cap) (Lib.compact S).length ((Lib.compact S).map encStr) ∧ Below base w w' := by
   intro nn os
   have ho := ownsRow_sorted (n := nn) (os := os) (ts := S) hSl hbg hblk h1 h2 hcs
   refine ⟨ho, ?_⟩
   obtain ⟨g', cap', e0, _, _, _, _, _, hH2⟩ := Lib.holds_of_ownsRow ho (by simp)
   injection e0 with e1 _ e3
   injection e1 with e1
   injection e1 with e1
   subst e1; subst e3
   have hc := Tryz.slices_Compact_string g 0 cap S _ hH2 (by omega) (by omega)
   rw [hSl] at hc
   refine hc.mono ?_
   rintro e w' ⟨rfl, q, rfl⟩
   have hle := Lib.compact_length_le S
   have hc2 := Lib.ownsRow_putRow (q := q) (k := (Lib.compact S).length) (ys := Lib.compact S ++ List.replicate (l.length - (Lib.compact S).length) []) ho (by simp; omega) (by omega)
   rw [List.take_left] at hc2
   exact ⟨rfl, hc2, Lib.below_putRow ((Below.refl base w).grown (grownBy_sorted _) hb (fun j hj => by cases hj; exact hbg)) hbg⟩
  have HC := hid hcon
  rw [hR.out]
  obtain ⟨K, hK⟩ : ∃ K, K = (Lib.compact S).length := ⟨_, rfl⟩
  clear h hv hH hblk hcs hcon hR hS
  rw [← hK] at HC ⊢
  generalize (Lib.compact S).map encStr = X at HC ⊢
  clear hK
  generalize l.length = n at *
  go_enter Tryz.func144, Tryz.ntmps144
  go_wp2_with (first | (go_at_call 157; refine hsort.mono ?_; rintro e w1 ⟨rfl, nn, os, hw⟩; have hC := (HC.out nn os).2; rw [← hw] at hC; clear hw hsort) | (go_at_call 158; refine hC.mono ?_; rintro e w2 ⟨rfl, hown, hbel⟩))
  go_ret
  exact ⟨_, rfl, hown, hbel⟩
theorem Sorted_own (v : Value) (l : List L8) (w : World) (h : Rd w v l) (hbig : l.length ≤ 4398046511103) :
  Calls Tryz.prog 134 #[v] w fun e w' => ∃ v', e = .returned v' ∧ w'.ownsRow w.heap.size 9 1 v' (sortL l).length ((sortL l).map encStr) ∧ Below w.heap.size w w' := by
 have HC : Hid (∀ W : World, Below w.heap.size w W → W.heap.size = w.heap.size + 1 → W.cell? ⟨w.heap.size, 0, none⟩ = some v →
   Calls Tryz.prog 145 #[.slice (some ⟨w.heap.size, 0, none⟩) 1 1] W fun e w' => ∃ v, e = .returned v ∧ w'.ownsRow w.heap.size 9 1 v l.length (l.map encStr) ∧ Below w.heap.size w w') := hid (by
  intro W hb hs hc
  have := Concat_any w.heap.size 0 1 1 [v] [l] W rfl rfl (Nat.le_refl _) (by omega) (by omega) (fun j hj => by
   have h0 : j = 0 := by simpa using hj
   subst h0; exact hc) (fun j hj hj' => by
   have h0 : j = 0 := by simpa using hj
   subst h0; exact h.below hb) (by simpa using hbig)
  refine this.mono ?_
  rintro e w' ⟨u, rfl, ho, hb2⟩
  simp only [List.flatten_cons, List.flatten_nil, List.append_nil] at ho
  exact ⟨u, rfl, owns_low ho (by omega), hb.trans (hb2.mono (by omega))⟩)
 have HB := hid hbig
 obtain ⟨a, cap, rfl, h1, h2, h3⟩ := h
 clear h3 hbig
 have HSet := hid fun (v1 : Value) (w1 : World) ho hb => settled_any v1 l l.length w.heap.size w1 ho hb HB.out
 generalize (sortL l).length = n1 at HSet ⊢
 generalize (sortL l).map encStr = X at HSet ⊢
 go_enter Tryz.func134, Tryz.ntmps134
 go_wp2_with (go_at_call 145; refine (HC.out _ ((Below.refl _ _).alloc (Nat.le_refl _) _) (by simp) (by simp)).mono ?_; rintro e w1 ⟨v1, rfl, hown, hbel⟩; have hset := HSet.out v1 w1 hown hbel.size; clear hown; have HL := hid hbel; clear hbel)
 go_wp2_with (go_at_call 144; refine hset.mono ?_; rintro e w2 ⟨v2, rfl, hown2, hbel2⟩)
 go_ret
 exact ⟨_, rfl, hown2, HL.out.trans hbel2⟩
end
section
open Go.RowKit Go.Shelf Go.Sort
open Nw N8
attribute [local go_sem] Oper.semAt_some
theorem take_snoc8 {l : List L8} {k : Nat} (h : k < l.length) : l.take (k + 1) = l.take k ++ [l[k]'h] := List.take_succ_eq_append_getElem h
theorem vals_in (F : Fence) (n : Nat) (hf : F.fn 189) (hro : F.round = none) (hn : 1 ≤ n) (l Bs n0 b off len cap : Nat) (zs : List L8) (hl : zs.length = len) (hlen : len ≤ 1000000) (hb : b < n0) (J Jx : List L8 → World → Prop)
  (hY : ∀ pre x W, J pre W → pre.length < len → YieldAt F (n - 1) Tryz.prog l #[encStr x] W fun e W' =>
   (e = .returned (.bool true) ∧ J (pre ++ [x]) W' ∧ Below n0 W W') ∨ (e = .returned (.bool false) ∧ Jx (pre ++ [x]) W'))
  (W : World) (hBs : W.cell? ⟨Bs, 0, none⟩ = some (.slice (some ⟨b, off, none⟩) len cap)) (hc : ∀ j (h : j < zs.length), W.cell? ⟨b, off + j, none⟩ = some (encStr (zs[j]'h))) (h0 : J [] W) :
  CallsIn F n Tryz.prog 189 #[.func (.yield l) #[] #[], .pointer (some ⟨Bs, 0, none⟩)] W fun e W' => (∃ v, e = .returned v) ∧ ((∃ ys, ys = zs ∧ J ys W') ∨ (∃ pre, pre <+: zs ∧ Jx pre W')) := by
 have HC := hid hc
 have HL := hid hl
 clear hc hl
 refine callsIn_of_wp Tryz.func189 rfl hf ?_ hro
 simp only [Tryz.ntmps189, List.size_toArray, List.length_cons, List.length_nil, Nat.reduceAdd, Nat.reduceSub, Array.replicate_succ, Array.replicate_zero, List.push_toArray, List.append_toArray, List.nil_append, List.cons_append]
 gi_wp2
 gi_loopw [7] (fun i wr => ∃ k : Nat, k ≤ len ∧ i = .int .i64 k ∧ J (zs.take k) wr ∧ Below n0 W wr) (fun i _ => len - (intOf i).toNat)
 case atStart => exact ⟨0, Nat.zero_le _, rfl, h0, Below.refl _ _⟩
 case round =>
  obtain ⟨k, hk, rfl, hJs, hnx⟩ := hrel
  by_cases hlt : k < len
  ·have hkl : k < zs.length := by rw [HL.out]; exact hlt
   obtain ⟨x, hx⟩ : ∃ x, zs[k]'hkl = x := ⟨_, rfl⟩
   have hcx : wr.cell? ⟨b, off + k, none⟩ = some (encStr x) := by rw [← hx]; exact (hnx.cell (p := ⟨b, off + k, none⟩) hb).trans (HC.out k hkl)
   have HT := hid (show zs.take k ++ [x] = zs.take (k + 1) by rw [take_snoc8 hkl, hx])
   have HP := hid (show zs.take (k + 1) <+: zs from List.take_prefix _ _)
   obtain ⟨fn, tmps, assign, body, hy, hR⟩ := hY _ x wr hJs (by rw [List.length_take]; omega)
   clear hx hY
   gi_wp2
   refine hR.mono ?_
   rintro e W3 (⟨rfl, hJ3, hk3⟩ | ⟨rfl, hJx3⟩)
   ·gi_wp2
    go_roundw
    case rel => exact ⟨k + 1, by omega, by simp, by rw [← HT.out]; exact hJ3, hnx.trans hk3⟩
    case measure => simp [intOf]; omega
   ·gi_wp2
    refine bodyPost_ret (results_none rfl _ _ _) rfl ?_
    exact ⟨⟨_, rfl⟩, .inr ⟨_, HP.out, by rw [← HT.out]; exact hJx3⟩⟩
  ·obtain rfl : k = len := by omega
   have HT := hid (show zs.take k = zs from List.take_of_length_le (by rw [HL.out]; exact Nat.le_refl _))
   gi_wp2
   go_end0
   exact ⟨⟨_, rfl⟩, .inl ⟨_, rfl, by rw [HT.out] at hJs; exact hJs⟩⟩
theorem vals_none_in (F : Fence) (n : Nat) (hf : F.fn 189) (hro : F.round = none) (l Bs : Nat) (a : Option Addr) (cap : Nat) (J : List L8 → World → Prop) (W : World) (hBs : W.cell? ⟨Bs, 0, none⟩ = some (.slice a 0 cap)) (h0 : J [] W) :
  CallsIn F n Tryz.prog 189 #[.func (.yield l) #[] #[], .pointer (some ⟨Bs, 0, none⟩)] W fun e W' => (∃ v, e = .returned v) ∧ J [] W' := by
 refine callsIn_of_wp Tryz.func189 rfl hf ?_ hro
 simp only [Tryz.ntmps189, List.size_toArray, List.length_cons, List.length_nil, Nat.reduceAdd, Nat.reduceSub, Array.replicate_succ, Array.replicate_zero, List.push_toArray, List.append_toArray, List.nil_append, List.cons_append]
 gi_wp2
 gi_loopw [7] (fun i wr => i = .int .i64 0 ∧ J [] wr) (fun _ _ => 0)
 case atStart => exact ⟨rfl, h0⟩
 case round =>
  obtain ⟨rfl, hJs⟩ := hrel
  gi_wp2
  go_end0
  exact ⟨⟨_, rfl⟩, hJs⟩
theorem vals_stops (F : Fence) (n : Nat) (hf : F.fn 189) (hro : F.round = none) (hn : 1 ≤ n) (Bs n0 : Nat) (v : Value) (zs : List L8) (hlen : zs.length ≤ 1000000) (w w0 : World) (hBs : Bs < w.heap.size) (hn0 : n0 ≤ w.heap.size)
  (hc : w.cell? ⟨Bs, 0, none⟩ = some v) (hv : Rd w0 v zs) (hsz : w0.heap.size = n0) (hb0 : Below n0 w0 w) :
  SeqStopsK F n Tryz.prog 189 #[.pointer (some ⟨Bs, 0, none⟩)] (fun x : L8 => #[encStr x]) (Below n0) (fun ys => ys = zs) (fun pre => pre <+: zs) zs.length w := fun l J Jx W hW _ _ hY h0 => by
 have hc' := (hW.cell (p := ⟨Bs, 0, none⟩) hBs).trans hc
 obtain ⟨a, cap, rfl, hle, hcm, hz⟩ := hv
 rcases hz with ⟨rfl, _⟩ | ⟨b, o, rfl, hb, hcs⟩
 ·exact (vals_none_in F n hf hro l Bs a cap J W hc' h0).mono fun e W' ⟨he, hj⟩ => ⟨he, .inl ⟨_, rfl, hj⟩⟩
 ·have hbn : b < n0 := by omega
  exact vals_in F n hf hro hn l Bs n0 b o zs.length cap zs rfl hlen hbn J Jx hY W hc' (fun j hj => ((hb0.trans (hW.mono hn0)).cell (p := ⟨b, o + j, none⟩) hbn).trans (hcs j hj)) h0
theorem values_in (F : Fence) (n : Nat) (hf : F.fn 174) (hro : F.round = none) (a : Option Addr) (len cap : Nat) (w : World) :
  CallsIn F n Tryz.prog 174 #[.slice a len cap] w fun e w' => e = .returned (.func (.func 189) #[] #[.pointer (some ⟨w.heap.size, 0, none⟩)]) ∧ w' = w.alloc (.cells #[.slice a len cap] 22) := by
 refine callsIn_of_wp Tryz.func174 rfl hf ?_ hro
 simp only [Tryz.ntmps174, List.size_toArray, List.length_cons, List.length_nil, Nat.reduceAdd, Nat.reduceSub, Array.replicate_succ, Array.replicate_zero, List.push_toArray, List.append_toArray, List.nil_append, List.cons_append]
 gi_wp2
 go_ret
 exact ⟨rfl, rfl⟩
end
end Go.Proofs.YtmdgpejedbkkdaaGreatDoor
