/- NamMath, EnvMath -/
import Derived.Test.YtgdejjkiiaodkaaGreatDoorPT1
import Derived.Test.YtgdejjkiiaodkaaGreatDoorPT3
import Derived.Test.YtgdejjkiiaodkaaGreatDoorRows
set_option linter.unusedVariables false
set_option linter.unusedSimpArgs false
set_option maxRecDepth 100000
set_option maxHeartbeats 16000000
namespace Go.Proofs.YtgdejjkiiaodkaaGreatDoor
namespace Nw
def low (c : UInt8) : Bool := decide (97 ≤ c.toNat) && decide (c.toNat ≤ 122)
def upp (c : UInt8) : Bool := decide (65 ≤ c.toNat) && decide (c.toNat ≤ 90)
def dig (c : UInt8) : Bool := decide (48 ≤ c.toNat) && decide (c.toNat ≤ 57)
def isC (n : Nat) (c : UInt8) : Bool := decide (c.toNat = n)
def v1 (c : UInt8) : Bool := low c || upp c || isC 95 c
def v2 (c : UInt8) : Bool := v1 c || dig c
def kind (c : UInt8) : Nat :=
 if 97 ≤ c.toNat ∧ c.toNat ≤ 122 then 1 else if 65 ≤ c.toNat ∧ c.toNat ≤ 90 then 2 else if 48 ≤ c.toNat ∧ c.toNat ≤ 57 then 3
 else if c.toNat = 95 then 4 else if c.toNat = 45 then 5 else if c.toNat = 46 then 6 else 0
def okAt (a b : UInt8 → Bool) (j : Nat) (c : UInt8) : Bool := if j = 0 then a c else b c
def good (a b : UInt8 → Bool) (l : List UInt8) (k : Nat) : Prop := ∀ j, j < k → okAt a b j (l.getD j 0) = true
instance (a b : UInt8 → Bool) (l : List UInt8) (k : Nat) : Decidable (good a b l k) := by unfold good; infer_instance
def nm (a b : UInt8 → Bool) (l : List UInt8) : Bool := decide (0 < l.length ∧ l.length ≤ 24 ∧ good a b l l.length)
theorem good_zero (a b) (l : List UInt8) : good a b l 0 := fun _ hj => absurd hj (Nat.not_lt_zero _)
theorem good_succ {a b} {l : List UInt8} {k : Nat} (h : good a b l k) (h1 : okAt a b k (l.getD k 0) = true) : good a b l (k + 1) := fun j hj => by
 rcases Nat.lt_succ_iff_lt_or_eq.1 hj with h2 | rfl
 ·exact h j h2
 ·exact h1
theorem nm_yes {a b} {l : List UInt8} (h0 : 0 < l.length) (h1 : l.length ≤ 24) (h : good a b l l.length) : nm a b l = true := decide_eq_true ⟨h0, h1, h⟩
theorem nm_not {a b} {l : List UInt8} {k : Nat} (hk : k < l.length) (h : okAt a b k (l.getD k 0) = false) : nm a b l = false :=
 decide_eq_false fun ⟨_, _, hg⟩ => by rw [hg k hk] at h; cases h
theorem nm_nil {a b} {l : List UInt8} (h : l.length = 0) : nm a b l = false := decide_eq_false fun ⟨h0, _, _⟩ => by omega
theorem nm_long {a b} {l : List UInt8} (h : 24 < l.length) : nm a b l = false := decide_eq_false fun ⟨_, h0, _⟩ => by omega
theorem all_256 (p : UInt8 → Bool) (h : (List.range 256).all (fun n => p (UInt8.ofNat n)) = true) (c : UInt8) : p c = true := by
 have := List.all_eq_true.1 h c.toNat (List.mem_range.2 c.toNat_lt)
 simpa using this
theorem k_v1 (c : UInt8) : v1 c = (decide (kind c ≠ 0) && decide (kind c ≤ 4) && decide (kind c ≠ 3)) := by
 have := all_256 (fun c => v1 c == (decide (kind c ≠ 0) && decide (kind c ≤ 4) && decide (kind c ≠ 3))) (by decide +kernel) c
 simpa using this
theorem k_v2 (c : UInt8) : v2 c = (decide (kind c ≠ 0) && decide (kind c ≤ 4)) := by
 have := all_256 (fun c => v2 c == (decide (kind c ≠ 0) && decide (kind c ≤ 4))) (by decide +kernel) c
 simpa using this
end Nw
end Go.Proofs.YtgdejjkiiaodkaaGreatDoor
namespace Go.Proofs.YtgdejjkiiaodkaaGreatDoor
namespace V12
open Nw Q6
abbrev KV := L8 × L8
def lastV : List KV → L8 → Option L8
 | [], _ => none
 | p :: l, k => match lastV l k with
  | some v => some v
  | none => if p.1 = k then some p.2 else none
def isV (k : L8) : Bool := nm v1 v2 k
def keysV (l : List KV) : List L8 := sortL ((l.map (·.1)).filter isV)
def gath (l : List KV) : List KV := (keysV l).map fun k => (k, (lastV l k).getD [])
def ofV (l : List KV) : List KV := (gath l).take 64
structure EnvOk (x : List KV) : Prop where
 asc : Asc (x.map (·.1))
 ok : ∀ p ∈ x, isV p.1 = true
theorem last_app : ∀ (a b : List KV) (k : L8), lastV (a ++ b) k = match lastV b k with | some v => some v | none => lastV a k
 | [], b, k => by cases h : lastV b k <;> simp [lastV, h]
 | p :: a, b, k => by
  show (match lastV (a ++ b) k with | some v => some v | none => if p.1 = k then some p.2 else none) = _
  rw [last_app a b k]
  cases h : lastV b k <;> simp [lastV]
theorem last_none : ∀ {l : List KV} {k : L8}, (∀ p ∈ l, p.1 ≠ k) → lastV l k = none
 | [], _, _ => rfl
 | p :: l, k, h => by
  show (match lastV l k with | some v => some v | none => if p.1 = k then some p.2 else none) = none
  rw [last_none fun q hq => h q (List.mem_cons_of_mem _ hq), if_neg (h p List.mem_cons_self)]
theorem last_some : ∀ {l : List KV} {k : L8}, (∃ p ∈ l, p.1 = k) → ∃ v, lastV l k = some v ∧ (k, v) ∈ l
 | [], _, h => by obtain ⟨p, hp, _⟩ := h; cases hp
 | p :: l, k, h => by
  by_cases hl : ∃ q ∈ l, q.1 = k
  ·obtain ⟨v, h1, h2⟩ := last_some hl
   exact ⟨v, by show (match lastV l k with | some v => some v | none => if p.1 = k then some p.2 else none) = _; rw [h1], List.mem_cons_of_mem _ h2⟩
  ·have h1 : lastV l k = none := last_none fun q hq e => hl ⟨q, hq, e⟩
   obtain ⟨q, hq, e⟩ := h
   rcases List.mem_cons.1 hq with rfl | hq
   ·refine ⟨q.2, ?_, by rw [← e]; exact List.mem_cons_self⟩
    show (match lastV l k with | some v => some v | none => if q.1 = k then some q.2 else none) = _
    rw [h1, if_pos e]
   ·exact absurd ⟨q, hq, e⟩ hl
theorem last_iff {l : List KV} {k : L8} : (lastV l k).isSome = true ↔ ∃ p ∈ l, p.1 = k := by
 by_cases h : ∃ p ∈ l, p.1 = k
 ·obtain ⟨v, h1, _⟩ := last_some h
  rw [h1]; exact ⟨fun _ => h, fun _ => rfl⟩
 ·rw [last_none fun p hp e => h ⟨p, hp, e⟩]
  exact ⟨fun e => (by cases e), fun e => absurd e h⟩
theorem mem_keys {l : List KV} {k : L8} : k ∈ keysV l ↔ isV k = true ∧ ∃ p ∈ l, p.1 = k := by
 unfold keysV
 rw [mem_sortL, List.mem_filter, List.mem_map]
 constructor
 ·rintro ⟨⟨p, hp, e⟩, h⟩; exact ⟨h, p, hp, e⟩
 ·rintro ⟨h, p, hp, e⟩; exact ⟨⟨p, hp, e⟩, h⟩
theorem gath_len (l : List KV) : (gath l).length ≤ l.length := by
 unfold gath keysV
 rw [List.length_map]
 refine Nat.le_trans (sortL_length_le _) (Nat.le_trans (List.length_filter_le _ _) ?_)
 rw [List.length_map]
 exact Nat.le_refl _
theorem last_asc : ∀ {x : List KV}, Asc (x.map (·.1)) → ∀ p ∈ x, lastV x p.1 = some p.2
 | [], _, p, hp => by cases hp
 | q :: x, h, p, hp => by
  have h' : (∀ y ∈ x.map (·.1), q.1 < y) ∧ Asc (x.map (·.1)) := List.pairwise_cons.1 h
  show (match lastV x p.1 with | some v => some v | none => if q.1 = p.1 then some q.2 else none) = _
  rcases List.mem_cons.1 hp with rfl | hp
  ·rw [last_none (k := p.1) fun r hr e => by
    have := h'.1 r.1 (List.mem_map.2 ⟨r, hr, rfl⟩)
    rw [e] at this
    exact lt_irr _ this, if_pos rfl]
  ·rw [last_asc h'.2 p hp]
theorem gath_env {x : List KV} (h : EnvOk x) : gath x = x := by
 have hk : keysV x = x.map (·.1) := by
  unfold keysV
  have e : (x.map (·.1)).filter isV = x.map (·.1) := List.filter_eq_self.2 fun k hk => by
   obtain ⟨p, hp, rfl⟩ := List.mem_map.1 hk
   exact h.ok p hp
  rw [e]
  exact sortL_eq h.asc fun _ => Iff.rfl
 unfold gath
 rw [hk, List.map_map]
 refine (List.map_congr_left (g := id) fun p hp => ?_).trans (List.map_id _)
 show (p.1, (lastV x p.1).getD []) = p
 rw [last_asc h.asc p hp]
 rfl
end V12
end Go.Proofs.YtgdejjkiiaodkaaGreatDoor
