/- EnvPar -/
import Derived.Test.YtgdejjkiiaodkaaGreatDoorPT4
set_option linter.unusedVariables false
set_option linter.unusedSimpArgs false
set_option maxRecDepth 100000
set_option maxHeartbeats 16000000
namespace Go.Proofs.YtgdejjkiiaodkaaGreatDoor
namespace V12
open Nw Q6
def dropB (l : L8) : L8 := l.dropWhile fun c => decide (c = 32)
def dropE (l : L8) : L8 := (dropB l.reverse).reverse
def trimS (l : L8) : L8 := dropE (dropB l)
def cutN : L8 → Nat
 | [] => 0
 | c :: t => if c = 32 ∧ t.getD 0 0 = 35 then 0 else cutN t + 1
def befN (b : UInt8) : L8 → Nat
 | [] => 0
 | c :: t => if c = b then 0 else befN b t + 1
def isQ (l : L8) : Bool := decide (l.getD 0 0 = 34 ∨ l.getD 0 0 = 39)
def behindOk (l : L8) (n : Nat) : Bool :=
 let r := dropB (l.drop n)
 decide (r = [] ∨ (r.length < (l.drop n).length ∧ r.getD 0 0 = 35))
def valV (l : L8) : Option L8 :=
 if isQ l then (if scanE l 0 = 0 then (if behindOk l (scanN l 0).toNat then some (scanV l 0) else none) else none)
 else if goodL (trimS (l.take (cutN l))) then some (trimS (l.take (cutN l))) else none
def expL : L8 := [101, 120, 112, 111, 114, 116, 32]
def expS (s : L8) : L8 := if 7 < s.length ∧ s.take 7 = expL then trimS (s.drop 7) else s
def pairV (s : L8) : Option KV :=
 let at_ := befN 61 s
 if at_ = s.length ∨ isV (s.take at_) = false ∨ (at_ + 1 < s.length ∧ s.getD (at_ + 1) 0 = 32) then none
 else (valV (s.drop (at_ + 1))).map fun v => (s.take at_, v)
def lineV (l : L8) : Option (Option KV) :=
 let s := trimS l
 if s = [] ∨ s.getD 0 0 = 35 then some none else (pairV (expS s)).map some
def goV (no : Nat) (acc : List KV) (l : L8) : List KV × Nat × Int :=
 match l with
 | [] => if 64 < (gath acc).length then ([], 0, 9) else (gath acc, 0, 0)
 | c :: t => match lineV ((c :: t).take (befN 10 (c :: t))) with
  | none => ([], no + 1, 3)
  | some o => goV (no + 1) (acc ++ o.toList) ((c :: t).drop (befN 10 (c :: t) + 1))
 termination_by l.length
 decreasing_by
  rw [List.length_drop]
  simp only [List.length_cons]
  omega
def parV (l : L8) : List KV × Nat × Int := if 8192 < l.length then ([], 0, 9) else goV 0 [] l
theorem goV_nil (no : Nat) (acc : List KV) : goV no acc [] = if 64 < (gath acc).length then ([], 0, 9) else (gath acc, 0, 0) := by rw [goV]
theorem goV_bad {no : Nat} {acc : List KV} {l : L8} (h : l ≠ []) (hb : lineV (l.take (befN 10 l)) = none) : goV no acc l = ([], no + 1, 3) := by
 cases l with
 | nil => exact absurd rfl h
 | cons c t => rw [goV, hb]
theorem goV_next {no : Nat} {acc : List KV} {l : L8} {o : Option KV} (h : l ≠ []) (hb : lineV (l.take (befN 10 l)) = some o) : goV no acc l = goV (no + 1) (acc ++ o.toList) (l.drop (befN 10 l + 1)) := by
 cases l with
 | nil => exact absurd rfl h
 | cons c t => rw [goV, hb]
theorem befN_le (b : UInt8) : ∀ l : L8, befN b l ≤ l.length
 | [] => Nat.le_refl _
 | c :: t => by
  unfold befN
  have := befN_le b t
  rw [List.length_cons]
  split <;> omega
theorem befN_lt {b : UInt8} : ∀ {l : L8} {k : Nat}, k < befN b l → k < l.length ∧ l.getD k 0 ≠ b
 | [], k, h => absurd h (Nat.not_lt_zero _)
 | c :: t, k, h => by
  unfold befN at h
  by_cases hc : c = b
  ·rw [if_pos hc] at h; exact absurd h (Nat.not_lt_zero _)
  ·rw [if_neg hc] at h
   cases k with
   | zero => exact ⟨Nat.succ_pos _, hc⟩
   | succ k =>
    have := befN_lt (b := b) (l := t) (Nat.lt_of_succ_lt_succ h)
    exact ⟨Nat.succ_lt_succ this.1, this.2⟩
theorem befN_at {b : UInt8} : ∀ {l : L8}, befN b l < l.length → l.getD (befN b l) 0 = b
 | [], h => absurd h (Nat.not_lt_zero _)
 | c :: t, h => by
  unfold befN at h ⊢
  by_cases hc : c = b
  ·rw [if_pos hc]; exact hc
  ·rw [if_neg hc] at h ⊢
   exact befN_at (b := b) (l := t) (Nat.lt_of_succ_lt_succ h)
theorem dropB_no {l : L8} (h : l.getD 0 0 ≠ 32) : dropB l = l := by
 cases l with
 | nil => rfl
 | cons c t =>
  unfold dropB
  rw [List.dropWhile_cons]
  have hc : c ≠ 32 := h
  rw [decide_eq_false hc]
  rfl
theorem par_long {l : L8} (h : 8192 < l.length) : parV l = ([], 0, 9) := by unfold parV; rw [if_pos h]
end V12
end Go.Proofs.YtgdejjkiiaodkaaGreatDoor
