/- NamRsortMath -/
import Derived.Test.YtkcilmmaggmmoaaDoorGT5
set_option linter.unusedVariables false
set_option linter.unusedSimpArgs false
set_option maxRecDepth 100000
set_option maxHeartbeats 16000000
namespace Go.Proofs.YtkcilmmaggmmoaaDoor
namespace Nw
end Nw
end Go.Proofs.YtkcilmmaggmmoaaDoor
namespace Go.Proofs.YtkcilmmaggmmoaaDoor
section
open Go.RowKit Go.Sort
open Nw Go.ChangeShapes Go.WideShapes
def BestIs (l : List L8) (k i : Nat) (bz : Int) : Prop :=
 (bz = -1 ∧ ∀ j (hj : j < l.length), j < i → ¬ cand l k l[j]) ∨
 (∃ b, ∃ hb : b < l.length, bz = b ∧ b < i ∧ cand l k l[b] ∧ ∀ j (hj : j < l.length), j < i → cand l k l[j] → l[b] ≤ l[j])
theorem BestIs.start (l : List L8) (k : Nat) : BestIs l k 0 (-1) := .inl ⟨rfl, fun j _ h => absurd h (Nat.not_lt_zero _)⟩
theorem BestIs.skip {l : List L8} {k i : Nat} {bz : Int} (h : BestIs l k i bz) (hi : i < l.length) (hn : ¬ cand l k l[i]) : BestIs l k (i + 1) bz := by
 rcases h with ⟨e, h⟩ | ⟨b, hb, e, hbi, hc, hmin⟩
 ·refine .inl ⟨e, fun j hj hji => ?_⟩
  rcases Nat.lt_succ_iff_lt_or_eq.1 hji with h1 | rfl
  ·exact h j hj h1
  ·exact hn
 ·refine .inr ⟨b, hb, e, by omega, hc, fun j hj hji hcj => ?_⟩
  rcases Nat.lt_succ_iff_lt_or_eq.1 hji with h1 | rfl
  ·exact hmin j hj h1 hcj
  ·exact absurd hcj hn
theorem BestIs.keep {l : List L8} {k i b : Nat} (hb : b < l.length) (h : BestIs l k i (b : Int)) (hi : i < l.length) (hn : ¬ l[i] < l[b]) : BestIs l k (i + 1) (b : Int) := by
 rcases h with ⟨e, _⟩ | ⟨b', hb', e, hbi, hc, hmin⟩
 ·omega
 ·obtain rfl : b = b' := by omega
  refine .inr ⟨b, hb, e, by omega, hc, fun j hj hji hcj => ?_⟩
  rcases Nat.lt_succ_iff_lt_or_eq.1 hji with h1 | rfl
  ·exact hmin j hj h1 hcj
  ·exact le_of_nlt hn
theorem BestIs.first {l : List L8} {k i : Nat} (h : BestIs l k i (-1)) (hi : i < l.length) (hc : cand l k l[i]) : BestIs l k (i + 1) (i : Int) := by
 rcases h with ⟨_, h⟩ | ⟨b, hb, e, _⟩
 ·refine .inr ⟨i, hi, rfl, by omega, hc, fun j hj hji hcj => ?_⟩
  rcases Nat.lt_succ_iff_lt_or_eq.1 hji with h1 | rfl
  ·exact absurd hcj (h j hj h1)
  ·exact List.le_refl _
 ·omega
theorem BestIs.less {l : List L8} {k i b : Nat} (hb : b < l.length) (h : BestIs l k i (b : Int)) (hi : i < l.length) (hc : cand l k l[i]) (hl : l[i] < l[b]) : BestIs l k (i + 1) (i : Int) := by
 rcases h with ⟨e, _⟩ | ⟨b', hb', e, hbi, hc', hmin⟩
 ·omega
 ·obtain rfl : b = b' := by omega
  refine .inr ⟨i, hi, rfl, by omega, hc, fun j hj hji hcj => ?_⟩
  rcases Nat.lt_succ_iff_lt_or_eq.1 hji with h1 | rfl
  ·exact List.le_trans (le_of_lt hl) (hmin j hj h1 hcj)
  ·exact List.le_refl _
theorem BestIs.done_none {l : List L8} {k : Nat} (hk : k ≤ (sortL l).length) (h : BestIs l k l.length (-1)) : k = (sortL l).length := by
 rcases h with ⟨_, h⟩ | ⟨b, hb, e, _⟩
 ·refine none_left hk fun y hy hc => ?_
  obtain ⟨j, hj, rfl⟩ := List.mem_iff_getElem.1 hy
  exact h j hj hj hc
 ·omega
theorem BestIs.done_some {l : List L8} {k b : Nat} (hk : k ≤ (sortL l).length) (hb : b < l.length) (h : BestIs l k l.length (b : Int)) : ∃ h : k < (sortL l).length, (sortL l)[k] = l[b] := by
 rcases h with ⟨e, _⟩ | ⟨b', hb', e, _, hc, hmin⟩
 ·omega
 ·obtain rfl : b = b' := by omega
  refine next_is hk (List.getElem_mem _) hc fun z hz hcz => ?_
  obtain ⟨j, hj, rfl⟩ := List.mem_iff_getElem.1 hz
  exact hmin j hj hj hcz
theorem BestIs.place {l : List L8} {k i : Nat} {bz : Int} (h : BestIs l k i bz) : bz = -1 ∨ ∃ b : Nat, bz = b ∧ b < l.length := by
 rcases h with ⟨e, _⟩ | ⟨b, hb, e, _⟩
 ·exact .inl e
 ·exact .inr ⟨b, e, hb⟩
theorem cand_zero (l : List L8) (y : L8) : cand l 0 y := .inl rfl
theorem cand_pos {l : List L8} {k : Nat} (hk : 0 < k) (hk' : k - 1 < (sortL l).length) (y : L8) : cand l k y ↔ (sortL l)[k - 1] < y := by
 unfold cand
 rw [List.getD_eq_getElem?_getD, List.getElem?_eq_getElem hk']
 exact ⟨fun h => by
  rcases h with h | h; · omega
  ·exact h, fun h => .inr h⟩
theorem owns_read {w : World} {base n : Nat} {e : TypeId} {v : Value} {l : List L8} (h : w.ownsRow base e 1 v n (l.map encStr)) :
  ∃ a cap, v = .slice a n cap ∧ n ≤ cap ∧ cap ≤ maxLen ∧ l.length = n ∧ (n = 0 ∨ ∃ g, a = some ⟨g, 0, none⟩ ∧ ∀ j (hj : j < l.length), w.cell? ⟨g, j, none⟩ = some (.string (ba l[j]))) := by
 have hl : l.length = n := by simpa using h.1
 have hc : ∀ (g len cap : Nat), v = .slice (some ⟨g, 0, none⟩) len cap → ∀ j (hj : j < l.length), w.cell? ⟨g, j, none⟩ = some (.string (ba l[j])) := fun g len cap hv j hj => by
  subst hv
  have := h.cells (g := g) rfl j (encStr l[j]) (by rw [List.getElem?_map, List.getElem?_eq_getElem hj]; rfl)
  rw [add_plain, Nat.zero_add] at this
  exact this
 rcases h.2 with ⟨e0, h0⟩ | ⟨g, cap, cur, hv, _, _, h1, h2, _⟩
 ·subst h0
  exact ⟨none, 0, e0, Nat.le_refl _, Nat.zero_le _, hl, .inl rfl⟩
 ·exact ⟨_, cap, hv, h1, h2, hl, .inr ⟨g, rfl, hc g n cap hv⟩⟩
theorem less_true {x y : L8} (h : x < y) : Op.bytesLess (ba x).toList (ba y).toList = true := by rw [ba_list, ba_list, bytesLess_eq]; exact decide_eq_true h
theorem less_false {x y : L8} (h : ¬ x < y) : Op.bytesLess (ba x).toList (ba y).toList = false := by rw [ba_list, ba_list, bytesLess_eq]; exact decide_eq_false h
theorem eq_true' {x y : L8} (h : x = y) : ((ba x).toList == (ba y).toList) = true := by rw [h]; exact beq_self_eq_true _
theorem eq_false' {x y : L8} (h : x ≠ y) : ((ba x).toList == (ba y).toList) = false := by rw [ba_list, ba_list]; exact beq_eq_false_iff_ne.2 h
end
end Go.Proofs.YtkcilmmaggmmoaaDoor
