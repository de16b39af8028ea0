/- A scope whose run jumps among several labels, and falls through into them: what holds at each label, and a measure that every way from label to label lowers. -/
import Derived.Test.YtfafoognjodeiaaDoorProg
import Derived.ScopeJumps
import Derived.WalkKit
namespace Go.Proofs.YtfafoognjodeiaaDoor
set_option linter.unusedVariables false
/-- As Q; by a goto to label l: K l. -/
def jumpsE (K : Nat → Act → World → Prop) (Q : Exit → Act → World → Prop) : Exit → Act → World → Prop
  | .goto l, a, w => K l a w
  | e, a, w => Q e a w
section
variable {P : Program} {a : Act} {w : World} {Q : Exit → Act → World → Prop} {c : Code}
theorem wp_scope_many (T : Nat → Code) (J : Nat → Act → World → Prop) (μ : Nat → Act → World → Nat)
    (hT : ∀ l a w, J l a w → findLabel c l = some (.seq .skip (T l)))
    (pass : ∀ l a w, J l a w → ∀ K : Nat → Act → World → Prop, (∀ l' a' w', J l' a' w' → μ l' a' w' < μ l a w → K l' a' w') →
      (∀ l' a' w', J l' a' w' → μ l' a' w' < μ l a w → (T l').wp P (jumpsE K Q) a' w') → (T l).wp P (jumpsE K Q) a w)
    (first : (∀ l a w, J l a w → (T l).wp P (jumpsE J Q) a w) → c.wp P (jumpsE J Q) a w) : (Code.scope c).wp P Q a w := by
  have full : ∀ n l a w, μ l a w = n → J l a w → ∀ K : Nat → Act → World → Prop, (∀ l' a' w', J l' a' w' → μ l' a' w' < n → K l' a' w') → (T l).wp P (jumpsE K Q) a w := by
    intro n
    induction n using Nat.strongRecOn with
    | _ n ih =>
      intro l a w hn hJ K hK
      subst hn
      exact pass l a w hJ K hK fun l' a' w' hJ' hlt => ih _ hlt l' a' w' rfl hJ' K fun l2 a2 w2 h2 hlt2 => hK l2 a2 w2 h2 (Nat.lt_trans hlt2 hlt)
  intro b k cs
  have hg : ∀ l a w, J l a w → gotoIn l (.inScope c :: k) = some (.code (.seq .skip (T l)) :: .inScope c :: k) := fun l a w hJ => by simp [gotoIn, hT l a w hJ]
  have key : ∀ n l a w, μ l a w = n → J l a w → ∃ e a' w', Q e a' w' ∧ Arrives P (lone (b.at a (.code (.seq .skip (T l)) :: .inScope c :: k)) cs w) b k cs e a' w' := by
    intro n
    induction n using Nat.strongRecOn with
    | _ n ih =>
      intro l a w hn hJ
      have hwp : (Code.seq .skip (T l)).wp P (jumpsE (fun l' a' w' => J l' a' w' ∧ μ l' a' w' < n) Q) a w :=
        wp_seq (wp_skip (full n l a w hn hJ _ fun l' a' w' h1 h2 => ⟨h1, h2⟩))
      obtain ⟨e, a₁, w₁, hq, harr⟩ := hwp b (.inScope c :: k) cs
      cases e with
      | normal => exact ⟨.normal, a₁, w₁, hq, Steps.trans harr (.one step_inScope)⟩
      | exit id => exact ⟨.exit id, a₁, w₁, hq, fun k' hk => harr k' (by simp [exitTo, hk])⟩
      | goto l' =>
        obtain ⟨hJ', hlt⟩ := hq
        obtain ⟨e₂, a₂, w₂, hq₂, harr₂⟩ := ih _ hlt l' a₁ w₁ rfl hJ'
        exact ⟨e₂, a₂, w₂, hq₂, .of_steps (harr _ (hg l' a₁ w₁ hJ')) harr₂⟩
      | ret => exact ⟨_, a₁, w₁, hq, harr⟩
      | panic ch => exact ⟨_, a₁, w₁, hq, harr⟩
      | outgrown => exact ⟨_, a₁, w₁, hq, harr⟩
  obtain ⟨e, a₁, w₁, hq, harr⟩ := first (fun l a w hJ => full _ l a w rfl hJ J fun _ _ _ h _ => h) b (.inScope c :: k) cs
  cases e with
  | normal => exact ⟨.normal, a₁, w₁, hq, .head step_scope (Steps.trans harr (.one step_inScope))⟩
  | exit id => exact ⟨.exit id, a₁, w₁, hq, fun k' hk => .head step_scope (harr k' (by simp [exitTo, hk]))⟩
  | goto l' =>
    obtain ⟨e₂, a₂, w₂, hq₂, harr₂⟩ := key _ l' a₁ w₁ rfl hq
    exact ⟨e₂, a₂, w₂, hq₂, .of_steps (.head step_scope (harr _ (hg l' a₁ w₁ hq))) harr₂⟩
  | ret => exact ⟨_, a₁, w₁, hq, .of_steps (.one step_scope) harr⟩
  | panic ch => exact ⟨_, a₁, w₁, hq, .of_steps (.one step_scope) harr⟩
  | outgrown => exact ⟨_, a₁, w₁, hq, .of_steps (.one step_scope) harr⟩
/-- One of four, by number. -/
def pick4 {α : Type} (d x0 x1 x2 x3 : α) : Nat → α
  | 0 => x0
  | 1 => x1
  | 2 => x2
  | 3 => x3
  | _ => d
/-- What the labels offer from a state of measure m: jumps and falls to smaller states. -/
structure Offers (P : Program) (Q : Exit → Act → World → Prop) (T0 T1 T2 T3 : Code) (J0 J1 J2 J3 : Act → World → Prop) (μ : Nat → Act → World → Nat) (K : Nat → Act → World → Prop) (m : Nat) : Prop where
  k0 : ∀ a w, J0 a w → μ 0 a w < m → K 0 a w
  k1 : ∀ a w, J1 a w → μ 1 a w < m → K 1 a w
  k2 : ∀ a w, J2 a w → μ 2 a w < m → K 2 a w
  k3 : ∀ a w, J3 a w → μ 3 a w < m → K 3 a w
  f0 : ∀ a w, J0 a w → μ 0 a w < m → T0.wp P (jumpsE K Q) a w
  f1 : ∀ a w, J1 a w → μ 1 a w < m → T1.wp P (jumpsE K Q) a w
  f2 : ∀ a w, J2 a w → μ 2 a w < m → T2.wp P (jumpsE K Q) a w
  f3 : ∀ a w, J3 a w → μ 3 a w < m → T3.wp P (jumpsE K Q) a w
theorem wp_scope4 {T0 T1 T2 T3 : Code} (J0 J1 J2 J3 : Act → World → Prop) (μ : Nat → Act → World → Nat)
    (h0 : (∃ a w, J0 a w) → findLabel c 0 = some (.seq .skip T0)) (h1 : (∃ a w, J1 a w) → findLabel c 1 = some (.seq .skip T1)) (h2 : (∃ a w, J2 a w) → findLabel c 2 = some (.seq .skip T2)) (h3 : (∃ a w, J3 a w) → findLabel c 3 = some (.seq .skip T3))
    (first : ∀ K : Nat → Act → World → Prop, (∀ m, Offers P Q T0 T1 T2 T3 J0 J1 J2 J3 μ K m) → c.wp P (jumpsE K Q) a w)
    (p0 : ∀ m : Act → World → Prop, m = (fun a w => ∀ K, Offers P Q T0 T1 T2 T3 J0 J1 J2 J3 μ K (μ 0 a w) → T0.wp P (jumpsE K Q) a w) → ∀ a w, J0 a w → m a w)
    (p1 : ∀ m : Act → World → Prop, m = (fun a w => ∀ K, Offers P Q T0 T1 T2 T3 J0 J1 J2 J3 μ K (μ 1 a w) → T1.wp P (jumpsE K Q) a w) → ∀ a w, J1 a w → m a w)
    (p2 : ∀ m : Act → World → Prop, m = (fun a w => ∀ K, Offers P Q T0 T1 T2 T3 J0 J1 J2 J3 μ K (μ 2 a w) → T2.wp P (jumpsE K Q) a w) → ∀ a w, J2 a w → m a w)
    (p3 : ∀ m : Act → World → Prop, m = (fun a w => ∀ K, Offers P Q T0 T1 T2 T3 J0 J1 J2 J3 μ K (μ 3 a w) → T3.wp P (jumpsE K Q) a w) → ∀ a w, J3 a w → m a w) : (Code.scope c).wp P Q a w := by
  refine wp_scope_many (pick4 .skip T0 T1 T2 T3) (pick4 (fun _ _ => False) J0 J1 J2 J3) μ ?_ ?_ ?_
  · intro l a w hJ
    match l, hJ with
    | 0, hJ => exact h0 ⟨a, w, hJ⟩
    | 1, hJ => exact h1 ⟨a, w, hJ⟩
    | 2, hJ => exact h2 ⟨a, w, hJ⟩
    | 3, hJ => exact h3 ⟨a, w, hJ⟩
    | _ + 4, hJ => exact hJ.elim
  · intro l a w hJ K hK hF
    match l, hJ, hK, hF with
    | 0, hJ, hK, hF => exact p0 _ rfl a w hJ K ⟨hK 0, hK 1, hK 2, hK 3, hF 0, hF 1, hF 2, hF 3⟩
    | 1, hJ, hK, hF => exact p1 _ rfl a w hJ K ⟨hK 0, hK 1, hK 2, hK 3, hF 0, hF 1, hF 2, hF 3⟩
    | 2, hJ, hK, hF => exact p2 _ rfl a w hJ K ⟨hK 0, hK 1, hK 2, hK 3, hF 0, hF 1, hF 2, hF 3⟩
    | 3, hJ, hK, hF => exact p3 _ rfl a w hJ K ⟨hK 0, hK 1, hK 2, hK 3, hF 0, hF 1, hF 2, hF 3⟩
    | _ + 4, hJ, _, _ => exact hJ.elim
  · intro hF
    exact first _ fun m => ⟨fun a w h _ => h, fun a w h _ => h, fun a w h _ => h, fun a w h _ => h, fun a w h _ => hF 0 a w h, fun a w h _ => hF 1 a w h, fun a w h _ => hF 2 a w h, fun a w h _ => hF 3 a w h⟩
end
end Go.Proofs.YtfafoognjodeiaaDoor
