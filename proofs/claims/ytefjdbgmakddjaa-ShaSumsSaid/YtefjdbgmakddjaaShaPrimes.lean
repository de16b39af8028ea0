/- The mathematics of the first primes: trial division by the primes found so far. -/
import Derived.KernelRfl
namespace Go.Proofs.Ytefjdbgmakddjaa.Pr

/-- The numbers from 2 up to c that no number found ahead of them divides. -/
def found : Nat → List Nat
  | 0 => []
  | c + 1 => if (found c).all (fun p => (c + 2) % p != 0) then found c ++ [c + 2] else found c
/-- The same, with a list carried along: what the kernel reckons. -/
def go : Nat → Nat → List Nat → List Nat
  | 0, _, l => l
  | k + 1, c, l => go k (c + 1) (if l.all (fun p => c % p != 0) then l ++ [c] else l)
theorem go_found (k c : Nat) : go k (c + 2) (found c) = found (c + k) := by
  induction k generalizing c with
  | zero => rfl
  | succ k ih =>
    show go k (c + 1 + 2) (found (c + 1)) = found (c + (k + 1))
    rw [ih (c + 1), show c + 1 + k = c + (k + 1) by omega]
def all : List Nat := [2, 3, 5, 7, 11, 13, 17, 19, 23, 29, 31, 37, 41, 43, 47, 53, 59, 61, 67, 71, 73, 79, 83, 89, 97, 101, 103, 107, 109, 113, 127, 131, 137, 139, 149, 151, 157, 163, 167, 173, 179, 181, 191, 193, 197, 199, 211, 223, 227, 229, 233, 239, 241, 251, 257, 263, 269, 271, 277, 281, 283, 293, 307, 311, 313, 317, 331, 337, 347, 349, 353, 359, 367, 373, 379, 383, 389, 397, 401, 409, 419, 421, 431, 433, 439, 443, 449, 457, 461, 463, 467, 479, 487, 491, 499, 503, 509, 521, 523, 541]
theorem go_540 : go 540 2 [] = all := by kernel_rfl
theorem found_540 : found 540 = all := by
  have h := go_found 540 0
  rw [show found 0 = [] from rfl, go_540, Nat.zero_add] at h
  exact h.symm
theorem all_len : all.length = 100 := by decide
theorem found_yes {c : Nat} (h : (found c).all (fun p => (c + 2) % p != 0) = true) : found (c + 1) = found c ++ [c + 2] := by
  show (if _ then _ else _) = _; rw [if_pos h]
theorem found_no {c : Nat} (h : (found c).all (fun p => (c + 2) % p != 0) = false) : found (c + 1) = found c := by
  show (if _ then _ else _) = _; rw [if_neg (by rw [h]; decide)]
theorem found_pre (c : Nat) : ∀ k, ∃ m, found (c + k) = found c ++ m
  | 0 => ⟨[], by simp⟩
  | k + 1 => by
    obtain ⟨m, hm⟩ := found_pre c k
    show ∃ m, found (c + k + 1) = found c ++ m
    by_cases h : (found (c + k)).all (fun p => (c + k + 2) % p != 0) = true
    · exact ⟨m ++ [c + k + 2], by rw [found_yes h, hm, List.append_assoc]⟩
    · exact ⟨m, by rw [found_no (Bool.eq_false_iff.2 h), hm]⟩
theorem found_take {c : Nat} (h : c ≤ 540) : found c = all.take (found c).length := by
  obtain ⟨m, hm⟩ := found_pre c (540 - c)
  rw [show c + (540 - c) = 540 by omega, found_540] at hm
  rw [hm, List.take_left]
theorem found_len {c : Nat} (h : c ≤ 540) : (found c).length ≤ 100 := by
  have := congrArg List.length (found_take h)
  rw [List.length_take, all_len] at this; omega
/-- While fewer than n are found, n at most 100, the search has not come to 540. -/
theorem found_open {c n : Nat} (h : c ≤ 540) (hn : n ≤ 100) (hl : (found c).length < n) : c < 540 := by
  by_cases e : c = 540
  · subst e; rw [found_540, all_len] at hl; omega
  · omega
theorem all_bd : ∀ p ∈ all, 2 ≤ p ∧ p ≤ 541 := by decide
theorem found_bd {c : Nat} (h : c ≤ 540) : ∀ p ∈ found c, 2 ≤ p ∧ p ≤ 541 := by
  intro p hp
  rw [found_take h] at hp
  exact all_bd p (List.mem_of_mem_take hp)
/-- The first n primes, for n in [0, 100]; else none. -/
def primesL (n : Int) : List Nat := if n < 0 ∨ 100 < n then [] else all.take n.toNat
theorem primesL_of {c n : Nat} (hc : c ≤ 540) (hn : n ≤ 100) (hl : (found c).length = n) : found c = primesL (n : Int) := by
  unfold primesL; rw [if_neg (by omega), Int.toNat_natCast, ← hl]; exact found_take hc
theorem primesL_out {n : Int} (h : n < 0 ∨ 100 < n) : primesL n = [] := if_pos h
theorem primesL_bd (n : Int) : ∀ p ∈ primesL n, 2 ≤ p ∧ p ≤ 541 := by
  unfold primesL
  split
  · intro p hp; cases hp
  · intro p hp; exact all_bd p (List.mem_of_mem_take hp)
theorem primesL_len (n : Int) : (primesL n).length ≤ 100 := by
  unfold primesL
  split
  · exact Nat.zero_le _
  · rw [List.length_take, all_len]; omega
theorem primesL_length {n : Nat} (h : n ≤ 100) : (primesL (n : Int)).length = n := by
  unfold primesL; rw [if_neg (by omega), Int.toNat_natCast, List.length_take, all_len]; omega
end Go.Proofs.Ytefjdbgmakddjaa.Pr
