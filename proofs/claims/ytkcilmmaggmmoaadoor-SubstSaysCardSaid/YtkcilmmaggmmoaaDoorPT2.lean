/- NamListMath -/
import Derived.Lib.SlicesCompact
import Derived.Shelf.Spec.SearchS
import Derived.Sort.Walk0
import Derived.Test.YtkcilmmaggmmoaaDoorRows
set_option linter.unusedVariables false
set_option linter.unusedSimpArgs false
set_option maxRecDepth 100000
set_option maxHeartbeats 16000000
namespace Go.Proofs.YtkcilmmaggmmoaaDoor
namespace Nw
abbrev L8 := List UInt8
def Asc (l : List L8) : Prop := l.Pairwise (· < ·)
def sortL (l : List L8) : List L8 := Lib.compact (l.mergeSort fun x y => decide (x ≤ y))
theorem lt_irr (x : L8) : ¬ x < x := List.lt_irrefl x
theorem lt_tr {x y z : L8} (h : x < y) (k : y < z) : x < z := List.lt_trans h k
theorem le_of_nlt {x y : L8} (h : ¬ x < y) : y ≤ x := List.not_lt.1 h
theorem lt_of_le_ne {x y : L8} (h : x ≤ y) (k : x ≠ y) : x < y := by
 rcases Classical.em (x < y) with h1 | h1
 ·exact h1
 ·exact absurd (List.le_antisymm h (le_of_nlt h1)) k
theorem le_of_lt {x y : L8} (h : x < y) : x ≤ y := List.le_of_lt h
theorem compactUpTo_facts (d : Array L8) (hd : ∀ i j, i < j → j < d.size → d[i]! ≤ d[j]!) : ∀ m, m ≤ d.size → Asc (Lib.compactUpTo d m) ∧ ∀ x, x ∈ Lib.compactUpTo d m ↔ ∃ j, j < m ∧ d[j]! = x
 | 0, _ => by
  refine ⟨by simp [Lib.compactUpTo, Asc], fun x => ?_⟩
  simp [Lib.compactUpTo]
 | m + 1, hm => by
  obtain ⟨ih1, ih2⟩ := compactUpTo_facts d hd m (by omega)
  rw [Lib.compactUpTo_succ]
  by_cases hk : Lib.keeps d m = true
  ·rw [if_pos hk]
   constructor
   ·unfold Asc at ih1 ⊢
    rw [List.pairwise_append]
    refine ⟨ih1, by simp, fun x hx y hy => ?_⟩
    obtain ⟨j, hj, rfl⟩ := (ih2 x).1 hx
    obtain rfl : y = d[m]! := by simpa using hy
    have hkk : m = 0 ∨ d[m]! ≠ d[m - 1]! := by unfold Lib.keeps at hk; exact of_decide_eq_true hk
    rcases hkk with h0 | h0
    ·omega
    ·have h1 : d[j]! ≤ d[m - 1]! := by
      rcases Nat.lt_or_ge j (m - 1) with h2 | h2
      ·exact hd j (m - 1) h2 (by omega)
      ·obtain rfl : j = m - 1 := by omega
       exact List.le_refl _
     have h2 : d[m - 1]! < d[m]! := lt_of_le_ne (hd (m - 1) m (by omega) (by omega)) (fun e => h0 e.symm)
     exact List.lt_of_le_of_lt h1 h2
   ·intro x
    rw [List.mem_append, ih2 x]
    constructor
    ·rintro (⟨j, hj, rfl⟩ | h)
     ·exact ⟨j, by omega, rfl⟩
     ·obtain rfl : x = d[m]! := by simpa using h
      exact ⟨m, by omega, rfl⟩
    ·rintro ⟨j, hj, rfl⟩
     rcases Nat.lt_or_ge j m with h | h
     ·exact .inl ⟨j, h, rfl⟩
     ·obtain rfl : j = m := by omega
      exact .inr (by simp)
  ·rw [if_neg hk, List.append_nil]
   have hkk : ¬ (m = 0 ∨ d[m]! ≠ d[m - 1]!) := by unfold Lib.keeps at hk; exact fun h => hk (decide_eq_true h)
   have h0 : m ≠ 0 := fun e => hkk (.inl e)
   have h1 : d[m]! = d[m - 1]! := Classical.byContradiction fun e => hkk (.inr e)
   refine ⟨ih1, fun x => ?_⟩
   rw [ih2 x]
   constructor
   ·rintro ⟨j, hj, rfl⟩; exact ⟨j, by omega, rfl⟩
   ·rintro ⟨j, hj, rfl⟩
    rcases Nat.lt_or_ge j m with h | h
    ·exact ⟨j, h, rfl⟩
    ·obtain rfl : j = m := by omega
     exact ⟨j - 1, by omega, h1.symm⟩
theorem ms_sorted (l : List L8) : (l.mergeSort fun x y => decide (x ≤ y)).Pairwise (· ≤ ·) := by
 have := List.pairwise_mergeSort (le := fun (x y : L8) => decide (x ≤ y)) (fun a b c h k => decide_eq_true (List.le_trans (of_decide_eq_true h) (of_decide_eq_true k))) (fun a b => by
  rcases List.le_total a b with h | h
  ·simp [h]
  ·simp [h]) l
 exact this.imp fun h => of_decide_eq_true h
theorem sortL_facts (l : List L8) : Asc (sortL l) ∧ ∀ x, x ∈ sortL l ↔ x ∈ l := by
 have hs := ms_sorted l
 generalize hm : (l.mergeSort fun x y => decide (x ≤ y)) = m at hs
 have hp : m.Perm l := hm ▸ List.mergeSort_perm l _
 have hd : ∀ i j, i < j → j < m.toArray.size → m.toArray[i]! ≤ m.toArray[j]! := fun i j hij hj => by
  have hj' : j < m.length := by simpa using hj
  have := List.pairwise_iff_getElem.1 hs i j (by omega) hj' hij
  rw [getElem!_pos m.toArray i (by simp; omega), getElem!_pos m.toArray j (by simpa using hj')]
  simpa using this
 obtain ⟨h1, h2⟩ := compactUpTo_facts m.toArray hd m.length (by simp)
 have e : sortL l = Lib.compactUpTo m.toArray m.length := by unfold sortL; rw [hm]; rfl
 rw [e]
 refine ⟨h1, fun x => ?_⟩
 rw [h2 x, ← hp.mem_iff]
 constructor
 ·rintro ⟨j, hj, rfl⟩
  rw [getElem!_pos m.toArray j (by simpa using hj)]; simp
 ·intro hx
  obtain ⟨j, hj, rfl⟩ := List.mem_iff_getElem.1 hx
  exact ⟨j, hj, by rw [getElem!_pos m.toArray j (by simpa using hj)]; simp⟩
theorem sortL_asc (l : List L8) : Asc (sortL l) := (sortL_facts l).1
theorem mem_sortL {l : List L8} {x : L8} : x ∈ sortL l ↔ x ∈ l := (sortL_facts l).2 x
theorem asc_get {S : List L8} (h : Asc S) {i j : Nat} (hij : i < j) (hj : j < S.length) : S[i] < S[j] := List.pairwise_iff_getElem.1 h i j (by omega) hj hij
theorem asc_le {S : List L8} (h : Asc S) {i j : Nat} (hij : i ≤ j) (hj : j < S.length) : S[i] ≤ S[j] := by
 rcases Nat.lt_or_eq_of_le hij with h1 | rfl
 ·exact le_of_lt (asc_get h h1 hj)
 ·exact List.le_refl _
theorem sortL_length_le (l : List L8) : (sortL l).length ≤ l.length := by
 have : (Lib.compact (l.mergeSort fun x y => decide (x ≤ y))).length ≤ (l.mergeSort fun x y => decide (x ≤ y)).length := by
  unfold Lib.compact Lib.compactUpTo
  rw [List.length_map]
  exact Nat.le_trans (List.length_filter_le _ _) (by simp)
 rwa [List.length_mergeSort] at this
def cand (l : List L8) (k : Nat) (y : L8) : Prop := k = 0 ∨ (sortL l).getD (k - 1) [] < y
theorem cand_mem {l : List L8} {k : Nat} (hk : k ≤ (sortL l).length) {y : L8} (hy : y ∈ l) (hc : cand l k y) : ∃ m, ∃ h : m < (sortL l).length, k ≤ m ∧ (sortL l)[m] = y := by
 obtain ⟨m, hm, rfl⟩ := List.mem_iff_getElem.1 (mem_sortL.2 hy)
 refine ⟨m, hm, ?_, rfl⟩
 rcases hc with h0 | h0
 ·omega
 ·refine Nat.le_of_not_lt fun hl => ?_
  rw [List.getD_eq_getElem?_getD, List.getElem?_eq_getElem (by omega)] at h0
  have h1 := asc_le (sortL_asc l) (show m ≤ k - 1 by omega) (by omega)
  exact lt_irr _ (List.lt_of_le_of_lt h1 h0)
theorem cand_next {l : List L8} {k : Nat} (hk : k < (sortL l).length) : (sortL l)[k] ∈ l ∧ cand l k (sortL l)[k] := by
 refine ⟨mem_sortL.1 (List.getElem_mem _), ?_⟩
 rcases Nat.eq_zero_or_pos k with h | h
 ·exact .inl h
 ·refine .inr ?_
  rw [List.getD_eq_getElem?_getD, List.getElem?_eq_getElem (by omega)]
  exact asc_get (sortL_asc l) (by omega) hk
theorem none_left {l : List L8} {k : Nat} (hk : k ≤ (sortL l).length) (h : ∀ y ∈ l, ¬ cand l k y) : k = (sortL l).length := by
 refine Nat.le_antisymm hk (Nat.le_of_not_lt fun hl => ?_)
 obtain ⟨h1, h2⟩ := cand_next hl
 exact h _ h1 h2
theorem next_is {l : List L8} {k : Nat} (hk : k ≤ (sortL l).length) {y : L8} (hy : y ∈ l) (hc : cand l k y) (hmin : ∀ z ∈ l, cand l k z → y ≤ z) : ∃ h : k < (sortL l).length, (sortL l)[k] = y := by
 obtain ⟨m, hm, hkm, rfl⟩ := cand_mem hk hy hc
 have hk' : k < (sortL l).length := by omega
 refine ⟨hk', ?_⟩
 obtain ⟨h1, h2⟩ := cand_next hk'
 exact List.le_antisymm (asc_le (sortL_asc l) hkm hm) (hmin _ h1 h2)
end Nw
end Go.Proofs.YtkcilmmaggmmoaaDoor
