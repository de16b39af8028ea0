/- Plain mathematics of lists of strings: the sorted list, its uniqueness, and what the two ways of making it come to. -/
import Derived.Test.YtkgfinhepbipeaaDoorRows
import Derived.Lib.SlicesCompact
import Derived.Shelf.Spec.SearchS
import Derived.Sort.Walk0
namespace Go.Proofs.YtkgfinhepbipeaaDoor
namespace Nw

abbrev L8 := List UInt8
/-- Strictly ascending. -/
def Asc (l : List L8) : Prop := l.Pairwise (· < ·)
def leB (x y : L8) : Bool := decide (x ≤ y)
def sortL (l : List L8) : List L8 := Lib.compact (l.mergeSort fun x y => decide (x ≤ y))

theorem lt_irr (x : L8) : ¬ x < x := List.lt_irrefl x
theorem lt_tr {x y z : L8} (h : x < y) (k : y < z) : x < z := List.lt_trans h k
theorem le_of_nlt {x y : L8} (h : ¬ x < y) : y ≤ x := List.not_lt.1 h
theorem lt_of_le_ne {x y : L8} (h : x ≤ y) (k : x ≠ y) : x < y := by
  rcases Classical.em (x < y) with h1 | h1
  · exact h1
  · exact absurd (List.le_antisymm h (le_of_nlt h1)) k
theorem le_of_lt {x y : L8} (h : x < y) : x ≤ y := List.le_of_lt h

theorem asc_unique : ∀ {a b : List L8}, Asc a → Asc b → (∀ x, x ∈ a ↔ x ∈ b) → a = b
  | [], [], _, _, _ => rfl
  | [], y :: b, _, _, h => absurd ((h y).2 List.mem_cons_self) List.not_mem_nil
  | x :: a, [], _, _, h => absurd ((h x).1 List.mem_cons_self) List.not_mem_nil
  | x :: a, y :: b, ha, hb, h => by
    have ha' := List.pairwise_cons.1 ha
    have hb' := List.pairwise_cons.1 hb
    have e : x = y := by
      rcases List.mem_cons.1 ((h x).1 List.mem_cons_self) with e | e
      · exact e
      · rcases List.mem_cons.1 ((h y).2 List.mem_cons_self) with e2 | e2
        · exact e2.symm
        · exact absurd (lt_tr (hb'.1 x e) (ha'.1 y e2)) (lt_irr _)
    subst e
    rw [asc_unique ha'.2 hb'.2 fun z => ⟨fun hz => ?_, fun hz => ?_⟩]
    · rcases List.mem_cons.1 ((h z).1 (List.mem_cons_of_mem _ hz)) with e | e
      · subst e; exact absurd (ha'.1 _ hz) (lt_irr _)
      · exact e
    · rcases List.mem_cons.1 ((h z).2 (List.mem_cons_of_mem _ hz)) with e | e
      · subst e; exact absurd (hb'.1 _ hz) (lt_irr _)
      · exact e

theorem compactUpTo_facts (d : Array L8) (hd : ∀ i j, i < j → j < d.size → d[i]! ≤ d[j]!) : ∀ m, m ≤ d.size → Asc (Lib.compactUpTo d m) ∧ ∀ x, x ∈ Lib.compactUpTo d m ↔ ∃ j, j < m ∧ d[j]! = x
  | 0, _ => by
    refine ⟨by simp [Lib.compactUpTo, Asc], fun x => ?_⟩
    simp [Lib.compactUpTo]
  | m + 1, hm => by
    obtain ⟨ih1, ih2⟩ := compactUpTo_facts d hd m (by omega)
    rw [Lib.compactUpTo_succ]
    by_cases hk : Lib.keeps d m = true
    · rw [if_pos hk]
      constructor
      · unfold Asc at ih1 ⊢
        rw [List.pairwise_append]
        refine ⟨ih1, by simp, fun x hx y hy => ?_⟩
        obtain ⟨j, hj, rfl⟩ := (ih2 x).1 hx
        obtain rfl : y = d[m]! := by simpa using hy
        have hkk : m = 0 ∨ d[m]! ≠ d[m - 1]! := by unfold Lib.keeps at hk; exact of_decide_eq_true hk
        rcases hkk with h0 | h0
        · omega
        · have h1 : d[j]! ≤ d[m - 1]! := by
            rcases Nat.lt_or_ge j (m - 1) with h2 | h2
            · exact hd j (m - 1) h2 (by omega)
            · obtain rfl : j = m - 1 := by omega
              exact List.le_refl _
          have h2 : d[m - 1]! < d[m]! := lt_of_le_ne (hd (m - 1) m (by omega) (by omega)) (fun e => h0 e.symm)
          exact List.lt_of_le_of_lt h1 h2
      · intro x
        rw [List.mem_append, ih2 x]
        constructor
        · rintro (⟨j, hj, rfl⟩ | h)
          · exact ⟨j, by omega, rfl⟩
          · obtain rfl : x = d[m]! := by simpa using h
            exact ⟨m, by omega, rfl⟩
        · rintro ⟨j, hj, rfl⟩
          rcases Nat.lt_or_ge j m with h | h
          · exact .inl ⟨j, h, rfl⟩
          · obtain rfl : j = m := by omega
            exact .inr (by simp)
    · rw [if_neg hk, List.append_nil]
      have hkk : ¬ (m = 0 ∨ d[m]! ≠ d[m - 1]!) := by unfold Lib.keeps at hk; exact fun h => hk (decide_eq_true h)
      have h0 : m ≠ 0 := fun e => hkk (.inl e)
      have h1 : d[m]! = d[m - 1]! := Classical.byContradiction fun e => hkk (.inr e)
      refine ⟨ih1, fun x => ?_⟩
      rw [ih2 x]
      constructor
      · rintro ⟨j, hj, rfl⟩; exact ⟨j, by omega, rfl⟩
      · rintro ⟨j, hj, rfl⟩
        rcases Nat.lt_or_ge j m with h | h
        · exact ⟨j, h, rfl⟩
        · obtain rfl : j = m := by omega
          exact ⟨j - 1, by omega, h1.symm⟩

theorem ms_sorted (l : List L8) : (l.mergeSort fun x y => decide (x ≤ y)).Pairwise (· ≤ ·) := by
  have := List.pairwise_mergeSort (le := fun (x y : L8) => decide (x ≤ y)) (fun a b c h k => decide_eq_true (List.le_trans (of_decide_eq_true h) (of_decide_eq_true k))) (fun a b => by
    rcases List.le_total a b with h | h
    · simp [h]
    · simp [h]) l
  exact this.imp fun h => of_decide_eq_true h

theorem sortL_facts (l : List L8) : Asc (sortL l) ∧ ∀ x, x ∈ sortL l ↔ x ∈ l := by
  have hs := ms_sorted l
  generalize hm : (l.mergeSort fun x y => decide (x ≤ y)) = m at hs
  have hp : m.Perm l := hm ▸ List.mergeSort_perm l _
  have hd : ∀ i j, i < j → j < m.toArray.size → m.toArray[i]! ≤ m.toArray[j]! := fun i j hij hj => by
    have hj' : j < m.length := by simpa using hj
    have := List.pairwise_iff_getElem.1 hs i j (by omega) hj' hij
    rw [getElem!_pos m.toArray i (by simp; omega), getElem!_pos m.toArray j (by simpa using hj')]
    simpa using this
  obtain ⟨h1, h2⟩ := compactUpTo_facts m.toArray hd m.length (by simp)
  have e : sortL l = Lib.compactUpTo m.toArray m.length := by unfold sortL; rw [hm]; rfl
  rw [e]
  refine ⟨h1, fun x => ?_⟩
  rw [h2 x, ← hp.mem_iff]
  constructor
  · rintro ⟨j, hj, rfl⟩
    rw [getElem!_pos m.toArray j (by simpa using hj)]; simp
  · intro hx
    obtain ⟨j, hj, rfl⟩ := List.mem_iff_getElem.1 hx
    exact ⟨j, hj, by rw [getElem!_pos m.toArray j (by simpa using hj)]; simp⟩

theorem sortL_asc (l : List L8) : Asc (sortL l) := (sortL_facts l).1
theorem mem_sortL {l : List L8} {x : L8} : x ∈ sortL l ↔ x ∈ l := (sortL_facts l).2 x
theorem sortL_eq {l S : List L8} (h : Asc S) (hm : ∀ x, x ∈ S ↔ x ∈ l) : sortL l = S := asc_unique (sortL_asc l) h fun x => by rw [mem_sortL, hm]
theorem sortL_sortL (l : List L8) : sortL (sortL l) = sortL l := sortL_eq (sortL_asc l) fun _ => Iff.rfl
theorem sortL_comm (a b : List L8) : sortL (b ++ a) = sortL (a ++ b) := sortL_eq (sortL_asc _) fun x => by rw [mem_sortL]; simp [or_comm]
theorem sortL_nil : sortL [] = [] := asc_unique (sortL_asc []) List.Pairwise.nil fun x => by rw [mem_sortL]
theorem asc_filter {l : List L8} (p : L8 → Bool) (h : Asc l) : Asc (l.filter p) := List.Pairwise.filter p h
theorem asc_get {S : List L8} (h : Asc S) {i j : Nat} (hij : i < j) (hj : j < S.length) : S[i] < S[j] := List.pairwise_iff_getElem.1 h i j (by omega) hj hij
theorem asc_le {S : List L8} (h : Asc S) {i j : Nat} (hij : i ≤ j) (hj : j < S.length) : S[i] ≤ S[j] := by
  rcases Nat.lt_or_eq_of_le hij with h1 | rfl
  · exact le_of_lt (asc_get h h1 hj)
  · exact List.le_refl _

theorem sortL_length_le (l : List L8) : (sortL l).length ≤ l.length := by
  have : (Lib.compact (l.mergeSort fun x y => decide (x ≤ y))).length ≤ (l.mergeSort fun x y => decide (x ≤ y)).length := by
    unfold Lib.compact Lib.compactUpTo
    rw [List.length_map]
    exact Nat.le_trans (List.length_filter_le _ _) (by simp)
  rwa [List.length_mergeSort] at this

/-- The lists' sizes: what is in both, without the first's own. -/
theorem count_eq (a b : List L8) : (sortL (a ++ b)).length = ((sortL a).filter fun x => !decide (x ∈ b)).length + (sortL b).length := by
  have e1 : (sortL a).filter (fun x => !decide (x ∈ b)) = (sortL (a ++ b)).filter (fun x => !decide (x ∈ b)) := by
    refine asc_unique (asc_filter _ (sortL_asc _)) (asc_filter _ (sortL_asc _)) fun x => ?_
    rw [List.mem_filter, List.mem_filter, mem_sortL, mem_sortL]
    simp only [List.mem_append, Bool.not_eq_true', decide_eq_false_iff_not]
    constructor
    · rintro ⟨h, k⟩; exact ⟨.inl h, k⟩
    · rintro ⟨h | h, k⟩
      · exact ⟨h, k⟩
      · exact absurd h k
  have e2 : sortL b = (sortL (a ++ b)).filter (fun x => decide (x ∈ b)) := by
    refine asc_unique (sortL_asc _) (asc_filter _ (sortL_asc _)) fun x => ?_
    rw [List.mem_filter, mem_sortL, mem_sortL]
    simp only [List.mem_append, decide_eq_true_eq]
    constructor
    · intro h; exact ⟨.inr h, h⟩
    · rintro ⟨_, h⟩; exact h
  rw [e1]
  conv => rhs; rw [e2]
  have : ∀ S : List L8, S.length = (S.filter fun x => !decide (x ∈ b)).length + (S.filter fun x => decide (x ∈ b)).length := by
    intro S
    induction S with
    | nil => rfl
    | cons x S ih => by_cases h : x ∈ b <;> simp [h] at ih ⊢ <;> omega
  exact this _

/-- Where x stands, or would stand, in an ascending list. -/
theorem place (x : L8) : ∀ {S : List L8}, Asc S → ∃ k, k ≤ S.length ∧ (∀ t (h : t < S.length), t < k → S[t] < x) ∧ (∀ t (h : t < S.length), k ≤ t → ¬ S[t] < x)
  | [], _ => ⟨0, Nat.le_refl _, fun t h => absurd h (Nat.not_lt_zero _), fun t h => absurd h (Nat.not_lt_zero _)⟩
  | y :: S, hS => by
    have hS' := List.pairwise_cons.1 hS
    by_cases hy : y < x
    · obtain ⟨k, hk, h1, h2⟩ := place x hS'.2
      refine ⟨k + 1, by simpa using hk, fun t h ht => ?_, fun t h ht => ?_⟩
      · cases t with
        | zero => exact hy
        | succ t => exact h1 t (by simpa using h) (by omega)
      · cases t with
        | zero => omega
        | succ t => exact h2 t (by simpa using h) (by omega)
    · refine ⟨0, Nat.zero_le _, fun t h ht => absurd ht (Nat.not_lt_zero _), fun t h ht hlt => ?_⟩
      cases t with
      | zero => exact hy hlt
      | succ t => exact hy (lt_tr (hS'.1 _ (List.getElem_mem _)) hlt)

/-- The halving finds x just where it is in the list. -/
theorem found {S : List L8} (hS : Asc S) (x : ByteArray) (Sx : Nat → ByteArray) (hSx : ∀ t (h : t < S.length), Sx t = ⟨S[t].toArray⟩) (hout : ∀ t, S.length ≤ t → Sx t = x) :
    decide (Lib.bsGo (fun t => Op.bytesLess (Sx t).toList x.toList) S.length 0 S.length < S.length ∧ Sx (Lib.bsGo (fun t => Op.bytesLess (Sx t).toList x.toList) S.length 0 S.length) = x) = decide (x.data.toList ∈ S) := by
  obtain ⟨k, hk, h1, h2⟩ := place x.data.toList hS
  have ev : ∀ t, Op.bytesLess (Sx t).toList x.toList = decide ((Sx t).data.toList < x.data.toList) := fun t => by rw [bytesLess_eq, ByteArray.toList_eq, ByteArray.toList_eq]
  have e : Lib.bsGo (fun t => Op.bytesLess (Sx t).toList x.toList) S.length 0 S.length = k := by
    refine Lib.bsGo_spec _ k (fun t ht => ?_) (fun t ht => ?_) _ _ _ (by omega) (Nat.zero_le _) hk
    · show Op.bytesLess (Sx t).toList x.toList = true
      rw [ev, hSx t (by omega)]
      exact decide_eq_true (by simpa using h1 t (by omega) ht)
    · show Op.bytesLess (Sx t).toList x.toList = false
      rw [ev]
      rcases Nat.lt_or_ge t S.length with h | h
      · rw [hSx t h]; exact decide_eq_false (by simpa using h2 t h ht)
      · rw [hout t h]; exact decide_eq_false (lt_irr _)
  rw [e]
  refine decide_eq_decide.2 ⟨fun ⟨h, hx⟩ => ?_, fun h => ?_⟩
  · rw [hSx k h] at hx
    rw [← hx]; simp
  · obtain ⟨m, hm, hx⟩ := List.mem_iff_getElem.1 h
    have hkm : k ≤ m := Nat.le_of_not_lt fun hl => by have := h1 m hm hl; rw [hx] at this; exact lt_irr _ this
    have hmk : k = m := by
      rcases Nat.lt_or_eq_of_le hkm with h3 | h3
      · have := asc_get hS h3 hm
        rw [hx] at this
        exact absurd this (h2 k (by omega) (Nat.le_refl _))
      · exact h3
    subst hmk
    exact ⟨hm, by rw [hSx k hm, hx]⟩

/-- The selection of the next one: y is in l, above the k taken ones, and the least such. -/
def cand (l : List L8) (k : Nat) (y : L8) : Prop := k = 0 ∨ (sortL l).getD (k - 1) [] < y

theorem cand_mem {l : List L8} {k : Nat} (hk : k ≤ (sortL l).length) {y : L8} (hy : y ∈ l) (hc : cand l k y) : ∃ m, ∃ h : m < (sortL l).length, k ≤ m ∧ (sortL l)[m] = y := by
  obtain ⟨m, hm, rfl⟩ := List.mem_iff_getElem.1 (mem_sortL.2 hy)
  refine ⟨m, hm, ?_, rfl⟩
  rcases hc with h0 | h0
  · omega
  · refine Nat.le_of_not_lt fun hl => ?_
    rw [List.getD_eq_getElem?_getD, List.getElem?_eq_getElem (by omega)] at h0
    have h1 := asc_le (sortL_asc l) (show m ≤ k - 1 by omega) (by omega)
    exact lt_irr _ (List.lt_of_le_of_lt h1 h0)

theorem cand_next {l : List L8} {k : Nat} (hk : k < (sortL l).length) : (sortL l)[k] ∈ l ∧ cand l k (sortL l)[k] := by
  refine ⟨mem_sortL.1 (List.getElem_mem _), ?_⟩
  rcases Nat.eq_zero_or_pos k with h | h
  · exact .inl h
  · refine .inr ?_
    rw [List.getD_eq_getElem?_getD, List.getElem?_eq_getElem (by omega)]
    exact asc_get (sortL_asc l) (by omega) hk

theorem none_left {l : List L8} {k : Nat} (hk : k ≤ (sortL l).length) (h : ∀ y ∈ l, ¬ cand l k y) : k = (sortL l).length := by
  refine Nat.le_antisymm hk (Nat.le_of_not_lt fun hl => ?_)
  obtain ⟨h1, h2⟩ := cand_next hl
  exact h _ h1 h2

theorem next_is {l : List L8} {k : Nat} (hk : k ≤ (sortL l).length) {y : L8} (hy : y ∈ l) (hc : cand l k y) (hmin : ∀ z ∈ l, cand l k z → y ≤ z) : ∃ h : k < (sortL l).length, (sortL l)[k] = y := by
  obtain ⟨m, hm, hkm, rfl⟩ := cand_mem hk hy hc
  have hk' : k < (sortL l).length := by omega
  refine ⟨hk', ?_⟩
  obtain ⟨h1, h2⟩ := cand_next hk'
  exact List.le_antisymm (asc_le (sortL_asc l) hkm hm) (hmin _ h1 h2)

end Nw
end Go.Proofs.YtkgfinhepbipeaaDoor
