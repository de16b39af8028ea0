/- Plain mathematics of names: the kinds of bytes, and what a name is. -/
import Derived.Test.YtfafoognjodeiaaDoorRows
namespace Go.Proofs.YtfafoognjodeiaaDoor
namespace Nw

def low (c : UInt8) : Bool := decide (97 ≤ c.toNat) && decide (c.toNat ≤ 122)
def upp (c : UInt8) : Bool := decide (65 ≤ c.toNat) && decide (c.toNat ≤ 90)
def dig (c : UInt8) : Bool := decide (48 ≤ c.toNat) && decide (c.toNat ≤ 57)
def isC (n : Nat) (c : UInt8) : Bool := decide (c.toNat = n)
def s1 (c : UInt8) : Bool := low c || upp c || dig c
def s2 (c : UInt8) : Bool := s1 c || isC 45 c || isC 95 c || isC 46 c
def v1 (c : UInt8) : Bool := low c || upp c || isC 95 c
def v2 (c : UInt8) : Bool := v1 c || dig c
def p1 (c : UInt8) : Bool := low c || dig c
def p2 (c : UInt8) : Bool := p1 c || isC 45 c || isC 95 c

def kind (c : UInt8) : Nat :=
  if 97 ≤ c.toNat ∧ c.toNat ≤ 122 then 1 else if 65 ≤ c.toNat ∧ c.toNat ≤ 90 then 2 else if 48 ≤ c.toNat ∧ c.toNat ≤ 57 then 3
  else if c.toNat = 95 then 4 else if c.toNat = 45 then 5 else if c.toNat = 46 then 6 else 0

theorem kind_le (c : UInt8) : kind c ≤ 6 := by unfold kind; repeat' split <;> try omega

/-- The byte at place j is of the first kind at the start, of the other kind behind it. -/
def okAt (a b : UInt8 → Bool) (j : Nat) (c : UInt8) : Bool := if j = 0 then a c else b c
/-- All of the first k bytes are. -/
def good (a b : UInt8 → Bool) (l : List UInt8) (k : Nat) : Prop := ∀ j, j < k → okAt a b j (l.getD j 0) = true
instance (a b : UInt8 → Bool) (l : List UInt8) (k : Nat) : Decidable (good a b l k) := by unfold good; infer_instance
/-- A name: 1 to 24 bytes. -/
def nm (a b : UInt8 → Bool) (l : List UInt8) : Bool := decide (0 < l.length ∧ l.length ≤ 24 ∧ good a b l l.length)

theorem good_zero (a b) (l : List UInt8) : good a b l 0 := fun _ hj => absurd hj (Nat.not_lt_zero _)
theorem good_succ {a b} {l : List UInt8} {k : Nat} (h : good a b l k) (h1 : okAt a b k (l.getD k 0) = true) : good a b l (k + 1) := fun j hj => by
  rcases Nat.lt_succ_iff_lt_or_eq.1 hj with h2 | rfl
  · exact h j h2
  · exact h1
theorem nm_yes {a b} {l : List UInt8} (h0 : 0 < l.length) (h1 : l.length ≤ 24) (h : good a b l l.length) : nm a b l = true := decide_eq_true ⟨h0, h1, h⟩
theorem nm_not {a b} {l : List UInt8} {k : Nat} (hk : k < l.length) (h : okAt a b k (l.getD k 0) = false) : nm a b l = false :=
  decide_eq_false fun ⟨_, _, hg⟩ => by rw [hg k hk] at h; cases h
theorem nm_nil {a b} {l : List UInt8} (h : l.length = 0) : nm a b l = false := decide_eq_false fun ⟨h0, _, _⟩ => by omega
theorem nm_long {a b} {l : List UInt8} (h : 24 < l.length) : nm a b l = false := decide_eq_false fun ⟨_, h0, _⟩ => by omega

theorem nm_sub {a b a' b'} (h1 : ∀ c, a c = true → a' c = true) (h2 : ∀ c, b c = true → b' c = true) {l : List UInt8} (h : nm a b l = true) : nm a' b' l = true := by
  unfold nm at h ⊢
  have := of_decide_eq_true h
  refine decide_eq_true ⟨this.1, this.2.1, fun j hj => ?_⟩
  have := this.2.2 j hj
  unfold okAt at this ⊢
  split at this <;> rename_i hj0
  · rw [if_pos hj0]; exact h1 _ this
  · rw [if_neg hj0]; exact h2 _ this

theorem p_s {l : List UInt8} (h : nm p1 p2 l = true) : nm s1 s2 l = true := by
  have h1 : ∀ c, p1 c = true → s1 c = true := fun c h => by
    simp only [p1, s1, Bool.or_eq_true] at h ⊢; rcases h with h | h
    · exact .inl (.inl h)
    · exact .inr h
  refine nm_sub h1 (fun c h => ?_) h
  simp only [p2, s2, Bool.or_eq_true] at h ⊢
  rcases h with (h | h) | h
  · exact .inl (.inl (.inl (h1 c h)))
  · exact .inl (.inl (.inr h))
  · exact .inl (.inr h)

theorem all_256 (p : UInt8 → Bool) (h : (List.range 256).all (fun n => p (UInt8.ofNat n)) = true) (c : UInt8) : p c = true := by
  have := List.all_eq_true.1 h c.toNat (List.mem_range.2 c.toNat_lt)
  simpa using this

theorem k_s1 (c : UInt8) : s1 c = (decide (kind c ≠ 0) && decide (kind c ≤ 3)) := by
  have := all_256 (fun c => s1 c == (decide (kind c ≠ 0) && decide (kind c ≤ 3))) (by decide +kernel) c
  simpa using this
theorem k_s2 (c : UInt8) : s2 c = decide (kind c ≠ 0) := by
  have := all_256 (fun c => s2 c == decide (kind c ≠ 0)) (by decide +kernel) c
  simpa using this
theorem k_v1 (c : UInt8) : v1 c = (decide (kind c ≠ 0) && decide (kind c ≤ 4) && decide (kind c ≠ 3)) := by
  have := all_256 (fun c => v1 c == (decide (kind c ≠ 0) && decide (kind c ≤ 4) && decide (kind c ≠ 3))) (by decide +kernel) c
  simpa using this
theorem k_v2 (c : UInt8) : v2 c = (decide (kind c ≠ 0) && decide (kind c ≤ 4)) := by
  have := all_256 (fun c => v2 c == (decide (kind c ≠ 0) && decide (kind c ≤ 4))) (by decide +kernel) c
  simpa using this
theorem k_p1 (c : UInt8) : p1 c = (decide (kind c = 1) || decide (kind c = 3)) := by
  have := all_256 (fun c => p1 c == (decide (kind c = 1) || decide (kind c = 3))) (by decide +kernel) c
  simpa using this
theorem k_p2 (c : UInt8) : p2 c = (decide (kind c ≠ 0) && decide (kind c ≠ 2) && decide (kind c ≠ 6)) := by
  have := all_256 (fun c => p2 c == (decide (kind c ≠ 0) && decide (kind c ≠ 2) && decide (kind c ≠ 6))) (by decide +kernel) c
  simpa using this
end Nw
end Go.Proofs.YtfafoognjodeiaaDoor
