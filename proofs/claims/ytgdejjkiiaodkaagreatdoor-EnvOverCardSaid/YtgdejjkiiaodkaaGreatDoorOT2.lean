/- NamMath -/
import Derived.Test.YtgdejjkiiaodkaaGreatDoorRows
set_option linter.unusedVariables false
set_option linter.unusedSimpArgs false
set_option maxRecDepth 100000
set_option maxHeartbeats 16000000
namespace Go.Proofs.YtgdejjkiiaodkaaGreatDoor
namespace Nw
def low (c : UInt8) : Bool := decide (97 ≤ c.toNat) && decide (c.toNat ≤ 122)
def upp (c : UInt8) : Bool := decide (65 ≤ c.toNat) && decide (c.toNat ≤ 90)
def dig (c : UInt8) : Bool := decide (48 ≤ c.toNat) && decide (c.toNat ≤ 57)
def isC (n : Nat) (c : UInt8) : Bool := decide (c.toNat = n)
def v1 (c : UInt8) : Bool := low c || upp c || isC 95 c
def v2 (c : UInt8) : Bool := v1 c || dig c
def okAt (a b : UInt8 → Bool) (j : Nat) (c : UInt8) : Bool := if j = 0 then a c else b c
def good (a b : UInt8 → Bool) (l : List UInt8) (k : Nat) : Prop := ∀ j, j < k → okAt a b j (l.getD j 0) = true
instance (a b : UInt8 → Bool) (l : List UInt8) (k : Nat) : Decidable (good a b l k) := by unfold good; infer_instance
def nm (a b : UInt8 → Bool) (l : List UInt8) : Bool := decide (0 < l.length ∧ l.length ≤ 24 ∧ good a b l l.length)
theorem good_zero (a b) (l : List UInt8) : good a b l 0 := fun _ hj => absurd hj (Nat.not_lt_zero _)
theorem good_succ {a b} {l : List UInt8} {k : Nat} (h : good a b l k) (h1 : okAt a b k (l.getD k 0) = true) : good a b l (k + 1) := fun j hj => by
 rcases Nat.lt_succ_iff_lt_or_eq.1 hj with h2 | rfl
 ·exact h j h2
 ·exact h1
theorem nm_yes {a b} {l : List UInt8} (h0 : 0 < l.length) (h1 : l.length ≤ 24) (h : good a b l l.length) : nm a b l = true := decide_eq_true ⟨h0, h1, h⟩
theorem nm_not {a b} {l : List UInt8} {k : Nat} (hk : k < l.length) (h : okAt a b k (l.getD k 0) = false) : nm a b l = false :=
 decide_eq_false fun ⟨_, _, hg⟩ => by rw [hg k hk] at h; cases h
theorem nm_nil {a b} {l : List UInt8} (h : l.length = 0) : nm a b l = false := decide_eq_false fun ⟨h0, _, _⟩ => by omega
theorem nm_long {a b} {l : List UInt8} (h : 24 < l.length) : nm a b l = false := decide_eq_false fun ⟨_, h0, _⟩ => by omega
end Nw
end Go.Proofs.YtgdejjkiiaodkaaGreatDoor
