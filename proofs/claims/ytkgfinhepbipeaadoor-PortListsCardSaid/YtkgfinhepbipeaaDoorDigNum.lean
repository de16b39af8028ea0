/- Reading what was written, and writing what was read: the plain mathematics of DigitBack. -/
import Derived.Test.YtkgfinhepbipeaaDoorRefDig1
import Derived.Test.YtkgfinhepbipeaaDoorRefDig3
namespace Go.Proofs.YtkgfinhepbipeaaDoor
open Dg
set_option linter.unusedVariables false
theorem dch_toNat (k : Nat) (h : k < 10) : ((dch k).toNat : Int) = 48 + (k : Int) := (digit_toNat' k h).symm
theorem dv_dch {k : Nat} (h : k < 10) : dv (dch k) = k := by
  have := dch_toNat k h; unfold dv; omega
theorem isDig_dch {k : Nat} (h : k < 10) : isDig (dch k) = true := by
  have := dch_toNat k h; exact isDig_of (by omega) (by omega)
theorem dch_dv {c : UInt8} (h : isDig c = true) : dch (dv c) = c := by
  have h1 := dv_le h
  apply UInt8.toNat_inj.1
  have := dch_toNat (dv c) (by omega)
  unfold dv at this ⊢
  omega
theorem dgw_snoc {wd n : Nat} (h : ¬ (n = 0 ∧ wd = 0)) : dgw wd n = dgw (wd - 1) (n / 10) ++ [dch (n % 10)] := dgw_step h
theorem val_dgw (wd n : Nat) : val (dgw wd n) = n := by
  induction hk : wd + n using Nat.strongRecOn generalizing wd n with
  | ind k ih =>
    by_cases h : n = 0 ∧ wd = 0
    · obtain ⟨rfl, rfl⟩ := h; rw [dgw_stop]; rfl
    · rw [dgw_snoc h, val_snoc, dv_dch (by omega)]
      have hlt : wd - 1 + n / 10 < k := by
        by_cases h0 : n = 0
        · subst h0; simp; omega
        · have := Nat.div_lt_self (Nat.pos_of_ne_zero h0) (show 1 < 10 by decide); omega
      rw [ih _ hlt _ _ rfl]
      omega
theorem digs_dgw (wd n : Nat) : digs (dgw wd n) = true := by
  induction hk : wd + n using Nat.strongRecOn generalizing wd n with
  | ind k ih =>
    by_cases h : n = 0 ∧ wd = 0
    · obtain ⟨rfl, rfl⟩ := h; rw [dgw_stop]; rfl
    · have hlt : wd - 1 + n / 10 < k := by
        by_cases h0 : n = 0
        · subst h0; simp; omega
        · have := Nat.div_lt_self (Nat.pos_of_ne_zero h0) (show 1 < 10 by decide); omega
      rw [dgw_snoc h]
      exact digs_append (ih _ hlt _ _ rfl) (by unfold digs; simp [isDig_dch (show n % 10 < 10 by omega)])
/-- With at least so many digits the width does nothing. -/
theorem dgw_wide (wd n : Nat) (h : 10 ^ wd ≤ n) : dgw (wd + 1) n = dgw 1 n := by
  induction wd generalizing n with
  | zero => rfl
  | succ k ih =>
    have h1 : 10 ^ k ≤ n / 10 := by rw [Nat.pow_succ] at h; omega
    have h2 : 0 < n / 10 := Nat.lt_of_lt_of_le (Nat.pow_pos (by decide)) h1
    rw [dgw_snoc (wd := k + 1 + 1) (by omega), dgw_snoc (wd := 1) (by omega)]
    show dgw (k + 1) (n / 10) ++ _ = dgw 0 (n / 10) ++ _
    rw [ih _ h1, dgw_01 h2]
theorem dgw_of_digs (l : List UInt8) (h : digs l = true) : dgw l.length (val l) = l := by
  suffices H : ∀ n (l : List UInt8), l.length = n → digs l = true → dgw n (val l) = l from H _ l rfl h
  intro n
  induction n with
  | zero => intro l hl _; rw [List.length_eq_zero_iff.1 hl]; exact dgw_stop
  | succ k ih =>
    intro l hl hd
    have hk : k < l.length := by omega
    have e : l = l.take k ++ [l[k]] := by rw [← take_snoc l k hk, List.take_of_length_le (by omega)]
    have hc := digs_get hd k hk
    have hv : val l = val (l.take k) * 10 + dv l[k] := by rw [← val_take l k hk, List.take_of_length_le (by omega)]
    have hdv := (dv_le hc).1
    have h1 : val l / 10 = val (l.take k) := by omega
    have h2 : val l % 10 = dv l[k] := by omega
    rw [dgw_snoc (by omega), h1, h2, dch_dv hc]
    show dgw k (val (l.take k)) ++ [l[k]] = l
    rw [ih (l.take k) (by rw [List.length_take]; omega) (digs_take hd k)]
    exact e.symm
theorem dgw_of_whole {l : List UInt8} (h : whole l = true) : dgw 1 (val l) = l := by
  have hd := dgw_of_digs l (digs_of_whole h)
  have hne : l ≠ [] := by rintro rfl; simp [whole] at h
  have hpos : 0 < l.length := List.length_pos_iff.2 hne
  obtain ⟨n, hn⟩ : ∃ n, l.length = n + 1 := ⟨l.length - 1, by omega⟩
  rw [hn] at hd
  by_cases h0 : n = 0
  · subst h0; exact hd
  · obtain ⟨m, rfl⟩ : ∃ m, n = m + 1 := ⟨n - 1, by omega⟩
    rw [dgw_wide (m + 1) (val l) (val_long h m (by omega))] at hd
    exact hd
theorem dgw_ne (m : Nat) : dgw 1 m ≠ [] := fun h => by have := dgw_one_pos m; rw [h] at this; simp at this
/-- The first digit of a number of several digits is no 0. -/
theorem whole_dgw (m : Nat) : whole (dgw 1 m) = true := by
  by_cases h0 : m = 0
  · subst h0; rw [dgw_small (by decide)]; decide
  · have hne := dgw_ne m
    have hd := digs_dgw 1 m
    have key : (dgw 1 m).headD 0 ≠ 48 := by
      intro hh
      -- a text with 0 ahead is its own tail's number
      obtain ⟨c, r, hcr⟩ : ∃ c r, dgw 1 m = c :: r := by
        cases hx : dgw 1 m with
        | nil => exact absurd hx hne
        | cons c r => exact ⟨c, r, rfl⟩
      rw [hcr] at hh
      have hc : c = 48 := hh
      subst hc
      have hv : val (dgw 1 m) = m := val_dgw 1 m
      have hv2 : val r = m := by rw [← hv, hcr]; simp [val, dv]
      have hlen : ∀ k n, n ≤ k → 0 < n → 10 ^ ((dgw 1 n).length - 1) ≤ n := by
        intro k
        induction k with
        | zero => intro n h1 h2; omega
        | succ k ih =>
          intro n h1 h2
          by_cases h10 : n < 10
          · rw [dgw_small h10]; exact h2
          · rw [dgw_big (by omega), List.length_append]
            have h3 := ih (n / 10) (by omega) (by omega)
            have h4 := dgw_one_pos (n / 10)
            have h5 : (dgw 1 (n / 10)).length + [UInt8.ofNat (48 + n % 10)].length - 1 = (dgw 1 (n / 10)).length - 1 + 1 := by simp; omega
            rw [h5, Nat.pow_succ]
            omega
      have h1 := hlen m m (Nat.le_refl _) (by omega)
      have hdr : digs r = true := by
        rw [hcr] at hd; unfold digs at hd ⊢; rw [List.all_cons, Bool.and_eq_true] at hd; exact hd.2
      have h2 := val_lt hdr
      rw [hcr, List.length_cons, Nat.add_sub_cancel] at h1
      omega
    rw [whole_digs (fun h => by rw [h] at key; exact key rfl) hne key]
    exact hd

end Go.Proofs.YtkgfinhepbipeaaDoor
