/- The mathematics of the roots. -/
import Derived.KernelRfl
namespace Go.Proofs.Ytefjdbgmakddjaa.Ro

def pw (k x : Nat) : Nat := if k = 3 then x * x * x else x * x
def top (k p : Nat) : Nat := if k = 3 then p * 79228162514264337593543950336 else p * 18446744073709551616
def IsRoot (k p x : Nat) : Prop := pw k x ≤ top k p ∧ top k p < pw k (x + 1)
theorem pw_mono (k : Nat) {x y : Nat} (h : x ≤ y) : pw k x ≤ pw k y := by
  unfold pw
  split
  · exact Nat.mul_le_mul (Nat.mul_le_mul h h) h
  · exact Nat.mul_le_mul h h
theorem root_unique {k p x y : Nat} (hx : IsRoot k p x) (hy : IsRoot k p y) : x = y := by
  rcases Nat.lt_trichotomy x y with h | h | h
  · have h1 := pw_mono k (show x + 1 ≤ y from h)
    have h2 := hx.2; have h3 := hy.1; omega
  · exact h
  · have h1 := pw_mono k (show y + 1 ≤ x from h)
    have h2 := hy.2; have h3 := hx.1; omega
/-- Bit by bit, from bit b - 1 on. -/
def rt (k p : Nat) : Nat → Nat → Nat
  | 0, x => x
  | b + 1, x => if pw k (x + 2 ^ b) ≤ top k p then rt k p b (x + 2 ^ b) else rt k p b x
theorem rt_is {k p : Nat} : ∀ (b x : Nat), pw k x ≤ top k p → top k p < pw k (x + 2 ^ b) → IsRoot k p (rt k p b x)
  | 0, x, h1, h2 => ⟨h1, h2⟩
  | b + 1, x, h1, h2 => by
    show IsRoot k p (if _ then _ else _)
    split
    · rename_i h
      exact rt_is b _ h (by rw [Nat.add_assoc, show 2 ^ b + 2 ^ b = 2 ^ (b + 1) by rw [Nat.pow_succ]; omega]; exact h2)
    · rename_i h
      exact rt_is b x h1 (by omega)
theorem rt_yes {k p b x : Nat} (h : pw k (x + 2 ^ b) ≤ top k p) : rt k p (b + 1) x = rt k p b (x + 2 ^ b) := by show (if _ then _ else _) = _; rw [if_pos h]
theorem rt_no {k p b x : Nat} (h : ¬ pw k (x + 2 ^ b) ≤ top k p) : rt k p (b + 1) x = rt k p b x := by show (if _ then _ else _) = _; rw [if_neg h]
def rootN (k p : Nat) : Nat := rt k p 38 0
theorem pw_big {k p : Nat} (hp : p ≤ 1000) : top k p < pw k 137438953472 := by
  unfold top pw
  split <;> omega
theorem pw_big2 {k p : Nat} (hp : p ≤ 1000) : top k p < pw k 274877906944 := by
  have := pw_big (k := k) hp
  have h2 := pw_mono k (show 137438953472 ≤ 274877906944 by decide)
  omega
theorem pw_zero (k : Nat) : pw k 0 = 0 := by unfold pw; split <;> rfl
theorem rootN_is {k p : Nat} (hp : p ≤ 1000) : IsRoot k p (rootN k p) := by
  refine rt_is 38 0 (by rw [pw_zero]; exact Nat.zero_le _) ?_
  rw [Nat.zero_add]
  exact pw_big2 hp
theorem rootN_of {k p x : Nat} (hp : p ≤ 1000) (h : IsRoot k p x) : rootN k p = x := root_unique (rootN_is hp) h
/-- The answer of Root. -/
def rootI (p kind : Int) : Int := if p < 1 ∨ 1000 < p ∨ (kind ≠ 2 ∧ kind ≠ 3) then 0 else ((rootN kind.toNat p.toNat % 4294967296 : Nat) : Int)
theorem rootI_out {p kind : Int} (h : p < 1 ∨ 1000 < p ∨ (kind ≠ 2 ∧ kind ≠ 3)) : rootI p kind = 0 := if_pos h
theorem rootI_in {p k : Nat} (h1 : 1 ≤ p) (h2 : p ≤ 1000) (hk : k = 2 ∨ k = 3) : rootI (p : Int) (k : Int) = ((rootN k p % 4294967296 : Nat) : Int) := by
  unfold rootI
  rw [if_neg (by omega), Int.toNat_natCast, Int.toNat_natCast]
/-- A number of two words against a radicand whose lower word is 0. -/
theorem two_le {u l r : Nat} (hl : l < 18446744073709551616) : u * 18446744073709551616 + l ≤ r * 18446744073709551616 ↔ u < r ∨ (u = r ∧ l = 0) := by omega
theorem pw_split (k x : Nat) : pw k x = pw k x / 18446744073709551616 * 18446744073709551616 + pw k x % 18446744073709551616 := by omega
/-- The upper word of the radicand. -/
def rad (k p : Nat) : Nat := if k = 3 then p * 4294967296 else p
theorem top_rad (k p : Nat) : top k p = rad k p * 18446744073709551616 := by
  unfold top rad; split <;> omega
theorem pw_test (k p x : Nat) : pw k x ≤ top k p ↔ pw k x / 18446744073709551616 < rad k p ∨ (pw k x / 18446744073709551616 = rad k p ∧ pw k x % 18446744073709551616 = 0) := by
  rw [top_rad]
  have h := two_le (u := pw k x / 18446744073709551616) (l := pw k x % 18446744073709551616) (r := rad k p) (by omega)
  rw [← pw_split] at h
  exact h
theorem cube_upper (x : Nat) : (x * x / 18446744073709551616) * x + (x * x % 18446744073709551616) * x / 18446744073709551616 = x * x * x / 18446744073709551616 ∧ (x * x % 18446744073709551616) * x % 18446744073709551616 = x * x * x % 18446744073709551616 := by
  have e : x * x * x = ((x * x / 18446744073709551616) * x) * 18446744073709551616 + (x * x % 18446744073709551616) * x := by
    have h := Nat.div_add_mod' (x * x) 18446744073709551616
    calc x * x * x = (x * x / 18446744073709551616 * 18446744073709551616 + x * x % 18446744073709551616) * x := by rw [h]
      _ = _ := by rw [Nat.add_mul, Nat.mul_right_comm]
  rw [e]
  generalize (x * x / 18446744073709551616) * x = A
  generalize (x * x % 18446744073709551616) * x = B
  omega
theorem sq_bd {x : Nat} (h : x ≤ 137438953472) : x * x / 18446744073709551616 ≤ 1024 := by
  have : x * x ≤ 137438953472 * 137438953472 := Nat.mul_le_mul h h
  omega
theorem cube_bd {x : Nat} (h : x ≤ 137438953472) : (x * x / 18446744073709551616) * x ≤ 140737488355328 ∧ (x * x % 18446744073709551616) * x / 18446744073709551616 ≤ 137438953472 := by
  constructor
  · have := Nat.mul_le_mul (sq_bd h) h
    omega
  · have h1 : x * x % 18446744073709551616 ≤ 18446744073709551616 := by omega
    have := Nat.mul_le_mul h1 h
    omega
end Go.Proofs.Ytefjdbgmakddjaa.Ro
