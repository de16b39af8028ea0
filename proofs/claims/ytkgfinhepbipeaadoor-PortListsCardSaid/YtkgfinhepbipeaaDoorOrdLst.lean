/- Plain mathematics of lists in a strict and total order: the sorted list without duplicates is unique; the least one that is left. -/
import Derived.Test.YtkgfinhepbipeaaDoorProg
namespace Go.Proofs.YtkgfinhepbipeaaDoor
namespace Ol
set_option linter.unusedVariables false
universe u
/-- A strict and total order, as a test. -/
structure Strict {α : Type u} (lt : α → α → Bool) : Prop where
  irr : ∀ a, lt a a = false
  tr : ∀ {a b c}, lt a b = true → lt b c = true → lt a c = true
  tri : ∀ {a b}, lt a b = false → lt b a = false → a = b
def Ascd {α : Type u} (lt : α → α → Bool) (l : List α) : Prop := l.Pairwise fun a b => lt a b = true
def ins {α : Type u} (lt : α → α → Bool) (x : α) : List α → List α
  | [] => [x]
  | y :: l => if lt x y = true then x :: y :: l else if lt y x = true then y :: ins lt x l else y :: l
def srt {α : Type u} (lt : α → α → Bool) (l : List α) : List α := l.foldr (ins lt) []
section
variable {α : Type u} {lt : α → α → Bool} (H : Strict lt)
include H
theorem mem_ins (x z : α) : ∀ l : List α, z ∈ ins lt x l ↔ z = x ∨ z ∈ l
  | [] => by simp [ins]
  | y :: l => by
    rw [ins]
    split
    · simp
    · split
      · rw [List.mem_cons, mem_ins x z l, List.mem_cons]
        constructor
        · rintro (h | h | h)
          · exact .inr (.inl h)
          · exact .inl h
          · exact .inr (.inr h)
        · rintro (h | h | h)
          · exact .inr (.inl h)
          · exact .inl h
          · exact .inr (.inr h)
      · rename_i h1 h2
        have e : x = y := H.tri (Bool.eq_false_iff.2 h1) (Bool.eq_false_iff.2 h2)
        subst e
        simp
theorem asc_ins (x : α) : ∀ l : List α, Ascd lt l → Ascd lt (ins lt x l)
  | [], _ => List.pairwise_singleton _ _
  | y :: l, h => by
    have h' := List.pairwise_cons.1 h
    rw [ins]
    split
    · rename_i h1
      refine List.pairwise_cons.2 ⟨fun z hz => ?_, h⟩
      rcases List.mem_cons.1 hz with rfl | hz
      · exact h1
      · exact H.tr h1 (h'.1 z hz)
    · split
      · rename_i h1 h2
        refine List.pairwise_cons.2 ⟨fun z hz => ?_, asc_ins x l h'.2⟩
        rcases (mem_ins H x z l).1 hz with rfl | hz
        · exact h2
        · exact h'.1 z hz
      · exact h
theorem asc_srt (l : List α) : Ascd lt (srt lt l) := by
  induction l with
  | nil => exact List.Pairwise.nil
  | cons x l ih => exact asc_ins H x _ ih
theorem mem_srt {l : List α} {z : α} : z ∈ srt lt l ↔ z ∈ l := by
  induction l with
  | nil => rfl
  | cons x l ih =>
    rw [show srt lt (x :: l) = ins lt x (srt lt l) from rfl, mem_ins H, ih, List.mem_cons]
theorem asc_unique : ∀ {a b : List α}, Ascd lt a → Ascd lt b → (∀ x, x ∈ a ↔ x ∈ b) → a = b
  | [], [], _, _, _ => rfl
  | [], y :: b, _, _, h => absurd ((h y).2 (List.mem_cons_self ..)) (by simp)
  | x :: a, [], _, _, h => absurd ((h x).1 (List.mem_cons_self ..)) (by simp)
  | x :: a, y :: b, ha, hb, h => by
    have ha' := List.pairwise_cons.1 ha
    have hb' := List.pairwise_cons.1 hb
    have nn : ∀ {p q : α}, lt p q = true → lt q p = true → False := fun hp hq => by
      have := H.tr hp hq
      rw [H.irr] at this; cases this
    have exy : x = y := by
      rcases List.mem_cons.1 ((h x).1 (List.mem_cons_self ..)) with e | e
      · exact e
      · rcases List.mem_cons.1 ((h y).2 (List.mem_cons_self ..)) with e2 | e2
        · exact e2.symm
        · exact (nn (hb'.1 x e) (ha'.1 y e2)).elim
    subst exy
    have hm : ∀ z, z ∈ a ↔ z ∈ b := fun z => by
      constructor
      · intro hz
        rcases List.mem_cons.1 ((h z).1 (List.mem_cons_of_mem _ hz)) with e | e
        · subst e
          have := ha'.1 _ hz
          rw [H.irr] at this; cases this
        · exact e
      · intro hz
        rcases List.mem_cons.1 ((h z).2 (List.mem_cons_of_mem _ hz)) with e | e
        · subst e
          have := hb'.1 _ hz
          rw [H.irr] at this; cases this
        · exact e
    rw [asc_unique ha'.2 hb'.2 hm]
theorem srt_eq {l S : List α} (h : Ascd lt S) (hm : ∀ x, x ∈ S ↔ x ∈ l) : srt lt l = S := asc_unique H (asc_srt H l) h fun x => by rw [mem_srt H, hm]
theorem srt_srt (l : List α) : srt lt (srt lt l) = srt lt l := srt_eq H (asc_srt H l) fun _ => Iff.rfl
omit H in
theorem ins_len (x : α) : ∀ l : List α, (ins lt x l).length ≤ l.length + 1
  | [] => Nat.le_refl _
  | y :: l => by
    rw [ins]
    split
    · exact Nat.le_refl _
    · split
      · have := ins_len x l
        rw [List.length_cons, List.length_cons]; omega
      · exact Nat.le_succ _
omit H in
theorem srt_len (l : List α) : (srt lt l).length ≤ l.length := by
  induction l with
  | nil => exact Nat.le_refl _
  | cons x l ih =>
    have := ins_len (lt := lt) x (srt lt l)
    rw [show srt lt (x :: l) = ins lt x (srt lt l) from rfl, List.length_cons]; omega
omit H in
theorem asc_get {S : List α} (h : Ascd lt S) {i j : Nat} (hij : i < j) (hj : j < S.length) : lt (S[i]'(Nat.lt_trans hij hj)) S[j] = true := List.pairwise_iff_getElem.1 h i j (by omega) hj hij
/- ### The least one that is left. -/
omit H in
/-- y comes behind the k that were taken. -/
def cand (lt : α → α → Bool) (l : List α) (k : Nat) (y : α) : Prop := k = 0 ∨ ∃ p, (srt lt l)[k - 1]? = some p ∧ lt p y = true
theorem cand_mem {l : List α} {k : Nat} (hk : k ≤ (srt lt l).length) {y : α} (hy : y ∈ l) (hc : cand lt l k y) : ∃ m, ∃ h : m < (srt lt l).length, k ≤ m ∧ (srt lt l)[m] = y := by
  obtain ⟨m, hm, rfl⟩ := List.mem_iff_getElem.1 ((mem_srt H).2 hy)
  refine ⟨m, hm, ?_, rfl⟩
  rcases hc with h0 | ⟨p, hp, h0⟩
  · omega
  · refine Nat.le_of_not_lt fun hl => ?_
    obtain ⟨hk1, rfl⟩ := List.getElem?_eq_some_iff.1 hp
    rcases Nat.lt_or_eq_of_le (show m ≤ k - 1 by omega) with h1 | h1
    · have := H.tr h0 (asc_get (asc_srt H l) h1 hk1)
      rw [H.irr] at this; cases this
    · subst h1
      rw [H.irr] at h0; cases h0
theorem cand_next {l : List α} {k : Nat} (hk : k < (srt lt l).length) : (srt lt l)[k] ∈ l ∧ cand lt l k (srt lt l)[k] := by
  refine ⟨(mem_srt H).1 (List.getElem_mem _), ?_⟩
  rcases Nat.eq_zero_or_pos k with h | h
  · exact .inl h
  · exact .inr ⟨_, List.getElem?_eq_getElem (show k - 1 < (srt lt l).length by omega), asc_get (asc_srt H l) (by omega) hk⟩
theorem none_left {l : List α} {k : Nat} (hk : k ≤ (srt lt l).length) (h : ∀ y ∈ l, ¬ cand lt l k y) : k = (srt lt l).length := by
  refine Nat.le_antisymm hk (Nat.le_of_not_lt fun hl => ?_)
  obtain ⟨h1, h2⟩ := cand_next H hl
  exact h _ h1 h2
theorem next_is {l : List α} {k : Nat} (hk : k ≤ (srt lt l).length) {y : α} (hy : y ∈ l) (hc : cand lt l k y) (hmin : ∀ z ∈ l, cand lt l k z → lt z y = false) : ∃ h : k < (srt lt l).length, (srt lt l)[k] = y := by
  obtain ⟨m, hm, hkm, rfl⟩ := cand_mem H hk hy hc
  have hk' : k < (srt lt l).length := by omega
  refine ⟨hk', ?_⟩
  obtain ⟨h1, h2⟩ := cand_next H hk'
  rcases Nat.lt_or_eq_of_le hkm with h | h
  · have h3 := asc_get (asc_srt H l) h hm
    rw [hmin _ h1 h2] at h3; cases h3
  · subst h; rfl
end
end Ol
end Go.Proofs.YtkgfinhepbipeaaDoor
