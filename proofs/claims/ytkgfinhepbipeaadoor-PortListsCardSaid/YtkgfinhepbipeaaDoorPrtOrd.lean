/- Plain mathematics: the order of ports is strict and total; whether some pair clashes. -/
import Derived.Test.YtkgfinhepbipeaaDoorRefPrt8
namespace Go.Proofs.YtkgfinhepbipeaaDoor
open Nw Dg P16
set_option linter.unusedVariables false
theorem lessP_iff (a b : Po) : lessP a b = true ↔ a.inn < b.inn ∨ (a.inn = b.inn ∧ (a.proto < b.proto ∨ (a.proto = b.proto ∧ (a.host < b.host ∨ (a.host = b.host ∧ a.out < b.out))))) := by
  unfold lessP
  by_cases h1 : a.inn = b.inn
  · rw [if_neg (fun k => k h1)]
    by_cases h2 : a.proto = b.proto
    · rw [if_neg (fun k => k h2)]
      by_cases h3 : a.host = b.host
      · rw [if_neg (fun k => k h3), decide_eq_true_iff]
        constructor
        · exact fun k => .inr ⟨h1, .inr ⟨h2, .inr ⟨h3, k⟩⟩⟩
        · rintro (k | ⟨_, k | ⟨_, k | ⟨_, k⟩⟩⟩)
          · omega
          · rw [h2] at k; exact absurd k (lt_irr _)
          · rw [h3] at k; exact absurd k (lt_irr _)
          · exact k
      · rw [if_pos h3, decide_eq_true_iff]
        constructor
        · exact fun k => .inr ⟨h1, .inr ⟨h2, .inl k⟩⟩
        · rintro (k | ⟨_, k | ⟨_, k | ⟨k, _⟩⟩⟩)
          · omega
          · rw [h2] at k; exact absurd k (lt_irr _)
          · exact k
          · exact absurd k h3
    · rw [if_pos h2, decide_eq_true_iff]
      constructor
      · exact fun k => .inr ⟨h1, .inl k⟩
      · rintro (k | ⟨_, k | ⟨k, _⟩⟩)
        · omega
        · exact k
        · exact absurd k h2
  · rw [if_pos h1, decide_eq_true_iff]
    constructor
    · exact fun k => .inl k
    · rintro (k | ⟨k, _⟩)
      · exact k
      · exact absurd k h1
theorem lessP_tr {a b c : Po} (h : lessP a b = true) (k : lessP b c = true) : lessP a c = true := by
  rw [lessP_iff] at h k ⊢
  obtain ⟨h1, o1, i1, p1⟩ := a
  obtain ⟨h2, o2, i2, p2⟩ := b
  obtain ⟨h3, o3, i3, p3⟩ := c
  dsimp only at h k ⊢
  rcases h with h | ⟨rfl, h | ⟨rfl, h | ⟨rfl, h⟩⟩⟩ <;> rcases k with k | ⟨rfl, k | ⟨rfl, k | ⟨rfl, k⟩⟩⟩
  all_goals first
    | exact .inl (Int.lt_trans h k)
    | exact .inl h
    | exact .inl k
    | exact .inr ⟨rfl, .inl (lt_tr h k)⟩
    | exact .inr ⟨rfl, .inl h⟩
    | exact .inr ⟨rfl, .inl k⟩
    | exact .inr ⟨rfl, .inr ⟨rfl, .inl (lt_tr h k)⟩⟩
    | exact .inr ⟨rfl, .inr ⟨rfl, .inl h⟩⟩
    | exact .inr ⟨rfl, .inr ⟨rfl, .inl k⟩⟩
    | exact .inr ⟨rfl, .inr ⟨rfl, .inr ⟨rfl, Int.lt_trans h k⟩⟩⟩
theorem lessP_tri {a b : Po} (h : lessP a b = false) (k : lessP b a = false) : a = b := by
  have h' : ¬ lessP a b = true := by rw [h]; exact Bool.false_ne_true
  have k' : ¬ lessP b a = true := by rw [k]; exact Bool.false_ne_true
  rw [lessP_iff] at h' k'
  obtain ⟨h1, o1, i1, p1⟩ := a
  obtain ⟨h2, o2, i2, p2⟩ := b
  dsimp only at h' k'
  have hl : ∀ x y : L8, ¬ x < y → ¬ y < x → x = y := fun x y a b => by
    rcases Classical.em (x = y) with e | e
    · exact e
    · exact absurd (lt_of_le_ne (le_of_nlt b) e) a
  have e1 : i1 = i2 := by
    have a1 : ¬ i1 < i2 := fun e => h' (.inl e)
    have a2 : ¬ i2 < i1 := fun e => k' (.inl e)
    omega
  subst e1
  have e2 : p1 = p2 := hl _ _ (fun e => h' (.inr ⟨rfl, .inl e⟩)) (fun e => k' (.inr ⟨rfl, .inl e⟩))
  subst e2
  have e3 : h1 = h2 := hl _ _ (fun e => h' (.inr ⟨rfl, .inr ⟨rfl, .inl e⟩⟩)) (fun e => k' (.inr ⟨rfl, .inr ⟨rfl, .inl e⟩⟩))
  subst e3
  have e4 : o1 = o2 := by
    have a1 : ¬ o1 < o2 := fun e => h' (.inr ⟨rfl, .inr ⟨rfl, .inr ⟨rfl, e⟩⟩⟩)
    have a2 : ¬ o2 < o1 := fun e => k' (.inr ⟨rfl, .inr ⟨rfl, .inr ⟨rfl, e⟩⟩⟩)
    omega
  rw [e4]
/-- Some pair of different places clashes. -/
def anyC : List Po → Bool
  | [] => false
  | p :: l => l.any (clashB p) || anyC l
theorem anyC_app (l m : List Po) : anyC (l ++ m) = (anyC l || anyC m || l.any fun p => m.any (clashB p)) := by
  induction l with
  | nil => simp [anyC]
  | cons p l ih =>
    rw [List.cons_append, anyC, anyC, ih, List.any_append, List.any_cons]
    cases l.any (clashB p) <;> cases m.any (clashB p) <;> cases anyC l <;> cases anyC m <;> simp
/-- In the order turned round the same. -/
theorem anyC_rev (l : List Po) : anyC l.reverse = anyC l := by
  induction l with
  | nil => rfl
  | cons p l ih =>
    have e : (l.reverse.any fun q => [p].any (clashB q)) = l.any (clashB p) := by
      rw [List.any_reverse]
      congr 1
      funext q
      rw [List.any_cons, List.any_nil, Bool.or_false, clash_sym]
    have e1 : anyC [p] = false := rfl
    have e2 : anyC (p :: l) = (l.any (clashB p) || anyC l) := rfl
    rw [List.reverse_cons, anyC_app, ih, e, e1, e2]
    cases l.any (clashB p) <;> cases anyC l <;> rfl
end Go.Proofs.YtkgfinhepbipeaaDoor
