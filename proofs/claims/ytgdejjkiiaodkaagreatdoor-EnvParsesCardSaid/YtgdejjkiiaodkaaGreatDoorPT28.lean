/- LinMath -/
import Derived.Test.YtgdejjkiiaodkaaGreatDoorPT3
set_option linter.unusedVariables false
set_option linter.unusedSimpArgs false
set_option maxRecDepth 100000
set_option maxHeartbeats 16000000
namespace Go.Proofs.YtgdejjkiiaodkaaGreatDoor
namespace Q6
theorem scD_in (n : Nat) : ∀ (l : List UInt8), l.length ≤ n → ∀ v m, scD l = some (v, m) → 1 ≤ m ∧ m ≤ l.length := by
 induction n with
 | zero =>
  intro l hl v m h
  cases l with
  | nil => rw [scD_nil] at h; cases h
  | cons c t => rw [List.length_cons] at hl; omega
 | succ n ih =>
  intro l hl v m h
  cases l with
  | nil => rw [scD_nil] at h; cases h
  | cons c t =>
   by_cases hc : c = 34
   ·subst hc
    rw [scD_end] at h
    cases h
    exact ⟨Nat.le_refl _, by rw [List.length_cons]; omega⟩
   ·obtain ⟨x, k⟩ : ∃ x, den (c :: t) = x := ⟨_, rfl⟩
    obtain ⟨y, j⟩ := x
    have hlen := den_len (c :: t)
    rw [k] at hlen
    by_cases hj : j = 0
    ·rw [scD_bad hc (by rw [k]; exact hj)] at h; cases h
    ·rw [scD_next hc k hj] at h
     cases hr : scD ((c :: t).drop j) with
     | none => rw [hr] at h; cases h
     | some p =>
      rw [hr] at h
      obtain ⟨p1, p2⟩ := p
      have hl2 : ((c :: t).drop j).length ≤ n := by rw [List.length_drop, List.length_cons]; rw [List.length_cons] at hl; omega
      have hi := ih _ hl2 _ _ hr
      rw [List.length_drop] at hi
      cases h
      have hlen' : j ≤ (c :: t).length := hlen
      exact ⟨by show 1 ≤ j + p2; omega, by show j + p2 ≤ _; omega⟩
theorem scS_in : ∀ (l : List UInt8) v m, scS l = some (v, m) → 1 ≤ m ∧ m ≤ l.length
 | [], v, m, h => by rw [scS] at h; cases h
 | [c], v, m, h => by
  rw [scS] at h
  split at h
  ·cases h; exact ⟨Nat.le_refl _, Nat.le_refl _⟩
  ·cases h
 | c :: d :: t, v, m, h => by
  rw [scS] at h
  split at h
  ·split at h
   ·split at h
    ·cases hr : scS t with
     | none => rw [hr] at h; cases h
     | some p =>
      obtain ⟨p1, p2⟩ := p
      rw [hr] at h
      have := scS_in t p1 p2 hr
      cases h
      exact ⟨by show 1 ≤ 2 + p2; omega, by show 2 + p2 ≤ t.length + 1 + 1; omega⟩
    ·cases h; exact ⟨Nat.le_refl _, by show 1 ≤ t.length + 1 + 1; omega⟩
   ·cases hr : scS (d :: t) with
    | none => rw [hr] at h; cases h
    | some p =>
     obtain ⟨p1, p2⟩ := p
     rw [hr] at h
     have := scS_in (d :: t) p1 p2 hr
     cases h
     have h2 : p2 ≤ t.length + 1 := this.2
     exact ⟨by show 1 ≤ 1 + p2; omega, by show 1 + p2 ≤ t.length + 1 + 1; omega⟩
  ·cases h
theorem scanE_cases (l : List UInt8) (k : Nat) : scanE l (k : Int) ≠ 0 ∨ ∃ (v : List UInt8) (m : Nat), scanE l (k : Int) = 0 ∧ scanV l (k : Int) = v ∧ scanN l (k : Int) = (m : Int) ∧ k < m ∧ m ≤ l.length := by
 by_cases hq : isQuote l (k : Int) = true
 ·have hk : k < l.length := by
   unfold isQuote at hq
   rw [Bool.and_eq_true, Bool.and_eq_true] at hq
   have := of_decide_eq_true hq.1.2
   omega
  have e1 : scanE l (k : Int) = outE (scanR l k) := by unfold scanE; rw [if_pos hq, Int.toNat_natCast]
  have e2 : scanV l (k : Int) = outV (scanR l k) := by unfold scanV; rw [if_pos hq, Int.toNat_natCast]
  have e3 : scanN l (k : Int) = outN (scanR l k) := by unfold scanN; rw [if_pos hq, Int.toNat_natCast]
  rw [e1, e2, e3]
  cases hr : scanR l k with
  | none => left; show (3 : Int) ≠ 0; decide
  | some p =>
   obtain ⟨v, m⟩ := p
   right
   refine ⟨v, m, rfl, rfl, rfl, ?_⟩
   unfold scanR at hr
   split at hr
   ·unfold atD at hr
    cases hs : scD (l.drop (k + 1)) with
    | none => rw [hs] at hr; cases hr
    | some p =>
     obtain ⟨p1, p2⟩ := p
     rw [hs] at hr
     have hi := scD_in _ _ (Nat.le_refl _) _ _ hs
     rw [List.length_drop] at hi
     cases hr
     exact ⟨by show k < k + 1 + p2; omega, by show k + 1 + p2 ≤ _; omega⟩
   ·unfold atS at hr
    cases hs : scS (l.drop (k + 1)) with
    | none => rw [hs] at hr; cases hr
    | some p =>
     obtain ⟨p1, p2⟩ := p
     rw [hs] at hr
     have hi := scS_in _ _ _ hs
     rw [List.length_drop] at hi
     cases hr
     exact ⟨by show k < k + 1 + p2; omega, by show k + 1 + p2 ≤ _; omega⟩
 ·left
  unfold scanE
  rw [if_neg hq]; decide
end Q6
end Go.Proofs.YtgdejjkiiaodkaaGreatDoor
