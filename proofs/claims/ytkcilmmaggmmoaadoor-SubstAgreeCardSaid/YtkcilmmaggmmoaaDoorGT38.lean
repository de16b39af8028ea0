/- NodSorted -/
import Derived.Test.YtkcilmmaggmmoaaDoorGT37
set_option linter.unusedVariables false
set_option linter.unusedSimpArgs false
set_option maxRecDepth 100000
set_option maxHeartbeats 16000000
open Go.Lib (hid)
namespace Go.Proofs.YtkcilmmaggmmoaaDoor
namespace Nw
end Nw
end Go.Proofs.YtkcilmmaggmmoaaDoor
namespace Go.Proofs.YtkcilmmaggmmoaaDoor
section
open Go.RowKit Go.Sort
open Nw Go.ChangeShapes Go.WideShapes
theorem owns_nil_s {w : World} {base n : Nat} {e : TypeId} {l : List L8} (h : w.ownsRow base e 1 (.slice none 0 0) n (l.map encStr)) : n = 0 ∧ l = [] := by
 have hl : l.length = n := by simpa using h.1
 rcases h.2 with ⟨_, h0⟩ | ⟨g, cap, cur, h0, _⟩
 ·subst h0; exact ⟨rfl, List.length_eq_zero_iff.1 hl⟩
 ·cases h0
theorem settled_any (v : Value) (l : List L8) (n base : Nat) (w : World) (h : w.ownsRow base 9 1 v n (l.map encStr)) (hb : base ≤ w.heap.size) (hbig : l.length ≤ 4398046511103) :
  Calls Tryd.prog 39 #[v] w fun e w' => ∃ v', e = .returned v' ∧ w'.ownsRow base 9 1 v' (sortL l).length ((sortL l).map encStr) ∧ Below base w w' := by
 by_cases hv : v = .slice none 0 0
 ·subst hv
  obtain ⟨rfl, rfl⟩ := owns_nil_s h
  have HN := hid sortL_nil
  have hS := Tryd.slices_Sort_string_none none 0 w
  have hC := Tryd.slices_Compact_string_empty none 0 w
  clear h
  go_enter Tryd.func39, Tryd.ntmps39
  go_wp2_with (first | (go_at_call 56; refine hS.mono ?_; rintro e w1 ⟨rfl, hw⟩; obtain rfl := hw) | (go_at_call 57; refine hC.mono ?_; rintro e w2 ⟨rfl, rfl⟩))
  go_ret
  refine ⟨_, rfl, ?_, Below.refl _ _⟩
  rw [HN.out]
  exact ⟨rfl, .inl ⟨rfl, rfl⟩⟩
 ·obtain ⟨g, cap, rfl, hbg, hg, h1, h2, hl, hH⟩ := Lib.holds_of_ownsRow h hv
  subst hl
  obtain ⟨cur, hblk, hcs⟩ : ∃ cur, w.heap[g]? = some (.cells cur 9 (0, 0)) ∧ cur.size = cap * 1 := by
   rcases h.2 with ⟨e0, _⟩ | ⟨g', cap', cur, e0, _, hgg, _, _, hs, _⟩
   ·exact absurd e0 hv
   ·injection e0 with e1 _ e3
    injection e1 with e1
    injection e1 with e1
    subst e1; subst e3
    exact ⟨cur, hgg, hs⟩
  obtain ⟨S, hS⟩ : ∃ S, S = l.mergeSort fun x y => decide (x ≤ y) := ⟨_, rfl⟩
  have hSl : S.length = l.length := by rw [hS, List.length_mergeSort]
  have hsort := Tryd.slices_Sort_string g 0 cap l w hH hg (by omega)
  rw [← hS] at hsort
  have hR : Hid (sortL l = Lib.compact S) := hid (by rw [hS]; rfl)
  have hcon : ∀ (nn : Nat) (os : Array Obj), (grow (putRow encStr (Sort.ahead w nn) g 0 S.toArray) os).ownsRow base 9 1 (.slice (some ⟨g, 0, none⟩) l.length cap) l.length (S.map encStr) ∧
    Calls Tryd.prog 57 #[.slice (some ⟨g, 0, none⟩) l.length cap] (grow (putRow encStr (Sort.ahead w nn) g 0 S.toArray) os) fun e w' => e = .returned (.slice (some ⟨g, 0, none⟩) (Lib.compact S).length cap) ∧
     w'.ownsRow base 9 1 (.slice (some ⟨g, 0, none⟩) (Lib.compact S).length cap) (Lib.compact S).length ((Lib.compact S).map encStr) ∧ Below base w w' := by
   intro nn os
   have ho := ownsRow_sorted (n := nn) (os := os) (ts := S) hSl hbg hblk h1 h2 hcs
   refine ⟨ho, ?_⟩
   obtain ⟨g', cap', e0, _, _, _, _, _, hH2⟩ := Lib.holds_of_ownsRow ho (by simp)
   injection e0 with e1 _ e3
   injection e1 with e1
   injection e1 with e1
   subst e1; subst e3
   have hc := Tryd.slices_Compact_string g 0 cap S _ hH2 (by omega) (by omega)
   rw [hSl] at hc
   refine hc.mono ?_
   rintro e w' ⟨rfl, q, rfl⟩
   have hle := Lib.compact_length_le S
   have hc2 := Lib.ownsRow_putRow (q := q) (k := (Lib.compact S).length) (ys := Lib.compact S ++ List.replicate (l.length - (Lib.compact S).length) []) ho (by simp; omega) (by omega)
   rw [List.take_left] at hc2
   exact ⟨rfl, hc2, Lib.below_putRow ((Below.refl base w).grown (grownBy_sorted _) hb (fun j hj => by cases hj; exact hbg)) hbg⟩
  have HC := hid hcon
  rw [hR.out]
  obtain ⟨K, hK⟩ : ∃ K, K = (Lib.compact S).length := ⟨_, rfl⟩
  clear h hv hH hblk hcs hcon hR hS
  rw [← hK] at HC ⊢
  generalize (Lib.compact S).map encStr = X at HC ⊢
  clear hK
  generalize l.length = n at *
  go_enter Tryd.func39, Tryd.ntmps39
  go_wp2_with (first | (go_at_call 56; refine hsort.mono ?_; rintro e w1 ⟨rfl, nn, os, hw⟩; have hC := (HC.out nn os).2; rw [← hw] at hC; clear hw hsort) | (go_at_call 57; refine hC.mono ?_; rintro e w2 ⟨rfl, hown, hbel⟩))
  go_ret
  exact ⟨_, rfl, hown, hbel⟩
theorem Sorted_own (v : Value) (l : List L8) (w : World) (h : Rd w v l) (hbig : l.length ≤ 4398046511103) :
  Calls Tryd.prog 24 #[v] w fun e w' => ∃ v', e = .returned v' ∧ w'.ownsRow w.heap.size 9 1 v' (sortL l).length ((sortL l).map encStr) ∧ Below w.heap.size w w' := by
 have HC : Hid (∀ W : World, Below w.heap.size w W → W.heap.size = w.heap.size + 1 → W.cell? ⟨w.heap.size, 0, none⟩ = some v →
   Calls Tryd.prog 40 #[.slice (some ⟨w.heap.size, 0, none⟩) 1 1] W fun e w' => ∃ v, e = .returned v ∧ w'.ownsRow w.heap.size 9 1 v l.length (l.map encStr) ∧ Below w.heap.size w w') := hid (by
  intro W hb hs hc
  have := Concat_any w.heap.size 0 1 1 [v] [l] W rfl rfl (Nat.le_refl _) (by omega) (by omega) (fun j hj => by
   have h0 : j = 0 := by simpa using hj
   subst h0; exact hc) (fun j hj hj' => by
   have h0 : j = 0 := by simpa using hj
   subst h0; exact h.below hb) (by simpa using hbig)
  refine this.mono ?_
  rintro e w' ⟨u, rfl, ho, hb2⟩
  simp only [List.flatten_cons, List.flatten_nil, List.append_nil] at ho
  exact ⟨u, rfl, owns_low ho (by omega), hb.trans (hb2.mono (by omega))⟩)
 have HB := hid hbig
 obtain ⟨a, cap, rfl, h1, h2, h3⟩ := h
 clear h3 hbig
 have HSet := hid fun (v1 : Value) (w1 : World) ho hb => settled_any v1 l l.length w.heap.size w1 ho hb HB.out
 generalize (sortL l).length = n1 at HSet ⊢
 generalize (sortL l).map encStr = X at HSet ⊢
 go_enter Tryd.func24, Tryd.ntmps24
 go_wp2_with (go_at_call 40; refine (HC.out _ ((Below.refl _ _).alloc (Nat.le_refl _) _) (by simp) (by simp)).mono ?_; rintro e w1 ⟨v1, rfl, hown, hbel⟩; have hset := HSet.out v1 w1 hown hbel.size; clear hown; have HL := hid hbel; clear hbel)
 go_wp2_with (go_at_call 39; refine hset.mono ?_; rintro e w2 ⟨v2, rfl, hown2, hbel2⟩)
 go_ret
 exact ⟨_, rfl, hown2, HL.out.trans hbel2⟩
end
end Go.Proofs.YtkcilmmaggmmoaaDoor
