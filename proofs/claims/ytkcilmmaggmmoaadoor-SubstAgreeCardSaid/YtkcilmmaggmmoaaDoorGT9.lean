/- EnvMath -/
import Derived.Lib.Bytealg
import Derived.Lib.Hide
import Derived.Lib.IndexMore
import Derived.Lib.Replace
import Derived.Test.YtkcilmmaggmmoaaDoorGT2
import Derived.Test.YtkcilmmaggmmoaaDoorGT3
set_option linter.unusedVariables false
set_option linter.unusedSimpArgs false
set_option maxRecDepth 100000
set_option maxHeartbeats 16000000
namespace Go.Proofs.YtkcilmmaggmmoaaDoor
namespace Nw
end Nw
namespace Q6
end Q6
end Go.Proofs.YtkcilmmaggmmoaaDoor
namespace Go.Proofs.YtkcilmmaggmmoaaDoor
namespace V12
open Nw Q6
abbrev KV := L8 × L8
def lastV : List KV → L8 → Option L8
 | [], _ => none
 | p :: l, k => match lastV l k with
  | some v => some v
  | none => if p.1 = k then some p.2 else none
def isV (k : L8) : Bool := nm v1 v2 k
def keysV (l : List KV) : List L8 := sortL ((l.map (·.1)).filter isV)
def gath (l : List KV) : List KV := (keysV l).map fun k => (k, (lastV l k).getD [])
def ofV (l : List KV) : List KV := (gath l).take 64
structure EnvOk (x : List KV) : Prop where
 asc : Asc (x.map (·.1))
 ok : ∀ p ∈ x, isV p.1 = true
theorem last_app : ∀ (a b : List KV) (k : L8), lastV (a ++ b) k = match lastV b k with | some v => some v | none => lastV a k
 | [], b, k => by cases h : lastV b k <;> simp [lastV, h]
 | p :: a, b, k => by
  show (match lastV (a ++ b) k with | some v => some v | none => if p.1 = k then some p.2 else none) = _
  rw [last_app a b k]
  cases h : lastV b k <;> simp [lastV]
theorem last_none : ∀ {l : List KV} {k : L8}, (∀ p ∈ l, p.1 ≠ k) → lastV l k = none
 | [], _, _ => rfl
 | p :: l, k, h => by
  show (match lastV l k with | some v => some v | none => if p.1 = k then some p.2 else none) = none
  rw [last_none fun q hq => h q (List.mem_cons_of_mem _ hq), if_neg (h p List.mem_cons_self)]
theorem last_some : ∀ {l : List KV} {k : L8}, (∃ p ∈ l, p.1 = k) → ∃ v, lastV l k = some v ∧ (k, v) ∈ l
 | [], _, h => by obtain ⟨p, hp, _⟩ := h; cases hp
 | p :: l, k, h => by
  by_cases hl : ∃ q ∈ l, q.1 = k
  ·obtain ⟨v, h1, h2⟩ := last_some hl
   exact ⟨v, by show (match lastV l k with | some v => some v | none => if p.1 = k then some p.2 else none) = _; rw [h1], List.mem_cons_of_mem _ h2⟩
  ·have h1 : lastV l k = none := last_none fun q hq e => hl ⟨q, hq, e⟩
   obtain ⟨q, hq, e⟩ := h
   rcases List.mem_cons.1 hq with rfl | hq
   ·refine ⟨q.2, ?_, by rw [← e]; exact List.mem_cons_self⟩
    show (match lastV l k with | some v => some v | none => if q.1 = k then some q.2 else none) = _
    rw [h1, if_pos e]
   ·exact absurd ⟨q, hq, e⟩ hl
theorem mem_keys {l : List KV} {k : L8} : k ∈ keysV l ↔ isV k = true ∧ ∃ p ∈ l, p.1 = k := by
 unfold keysV
 rw [mem_sortL, List.mem_filter, List.mem_map]
 constructor
 ·rintro ⟨⟨p, hp, e⟩, h⟩; exact ⟨h, p, hp, e⟩
 ·rintro ⟨h, p, hp, e⟩; exact ⟨⟨p, hp, e⟩, h⟩
theorem gath_keys (l : List KV) : (gath l).map (·.1) = keysV l := by
 unfold gath
 rw [List.map_map]
 exact List.map_id'' (fun _ => rfl) _
theorem gath_ok (l : List KV) : EnvOk (gath l) :=
 ⟨by rw [gath_keys]; exact sortL_asc _, fun p hp => by
  have : p.1 ∈ (gath l).map (·.1) := List.mem_map.2 ⟨p, hp, rfl⟩
  rw [gath_keys] at this
  exact (mem_keys.1 this).1⟩
theorem EnvOk.take {x : List KV} (h : EnvOk x) (n : Nat) : EnvOk (x.take n) :=
 ⟨by rw [List.map_take]; exact List.Pairwise.sublist (List.take_sublist n _) h.asc, fun p hp => h.ok p (List.mem_of_mem_take hp)⟩
theorem of_ok (l : List KV) : EnvOk (ofV l) := (gath_ok l).take 64
theorem gath_len (l : List KV) : (gath l).length ≤ l.length := by
 unfold gath keysV
 rw [List.length_map]
 refine Nat.le_trans (sortL_length_le _) (Nat.le_trans (List.length_filter_le _ _) ?_)
 rw [List.length_map]
 exact Nat.le_refl _
theorem of_len (l : List KV) : (ofV l).length ≤ 64 ∧ (ofV l).length ≤ l.length := by
 unfold ofV
 have := gath_len l
 rw [List.length_take]
 omega
theorem of_few {l : List KV} (h : l.length ≤ 64) : ofV l = gath l := by
 unfold ofV
 exact List.take_of_length_le (Nat.le_trans (gath_len l) h)
theorem last_map (f : L8 → L8) : ∀ (S : List L8) (k : L8), lastV (S.map fun k => (k, f k)) k = if k ∈ S then some (f k) else none
 | [], k => by simp [lastV]
 | s :: S, k => by
  show (match lastV (S.map fun k => (k, f k)) k with | some v => some v | none => if s = k then some (f s) else none) = _
  rw [last_map f S k]
  by_cases h : k ∈ S
  ·rw [if_pos h, if_pos (List.mem_cons_of_mem _ h)]
  ·rw [if_neg h]
   by_cases e : s = k
   ·subst e; simp
   ·simp [e, h, Ne.symm e]
theorem gath_last (l : List KV) (k : L8) : lastV (gath l) k = if isV k then lastV l k else none := by
 unfold gath
 rw [last_map]
 by_cases hv : isV k = true
 ·rw [if_pos hv]
  by_cases h : ∃ p ∈ l, p.1 = k
  ·rw [if_pos (mem_keys.2 ⟨hv, h⟩)]
   obtain ⟨v, h1, _⟩ := last_some h
   rw [h1]; rfl
  ·rw [if_neg fun e => h (mem_keys.1 e).2, last_none fun p hp e => h ⟨p, hp, e⟩]
 ·rw [if_neg hv, if_neg fun e => hv (mem_keys.1 e).1]
end V12
end Go.Proofs.YtkcilmmaggmmoaaDoor
