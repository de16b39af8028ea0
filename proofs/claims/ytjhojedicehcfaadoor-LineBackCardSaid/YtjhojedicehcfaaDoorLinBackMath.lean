/- That the lines of a file, joined and split again, are the same lines. -/
import Derived.Test.YtjhojedicehcfaaDoorLinMath
namespace Go.Proofs.YtjhojedicehcfaaDoor
namespace Q6
set_option linter.unusedVariables false
theorem getD_take {l : List UInt8} {j k : Nat} (h : k < j) : (l.take j).getD k 0 = l.getD k 0 := by
  rw [List.getD_eq_getElem?_getD, List.getD_eq_getElem?_getD, List.getElem?_take_of_lt h]
theorem den_take : ∀ (l : List UInt8) (j : Nat) v m, den l = (v, m) → m ≠ 0 → m ≤ j → den (l.take j) = (v, m) := by
  intro l j v m h hm hj
  match l, j with
  | [], _ => cases h; exact absurd rfl hm
  | c :: t, 0 => omega
  | c :: t, j + 1 =>
    rw [List.take_succ_cons, den_cons]
    rw [den_cons] at h
    by_cases h92 : c = 92
    · rw [if_pos h92] at h ⊢
      match t, j with
      | [], _ => cases h; exact absurd rfl hm
      | d :: u, 0 =>
        rw [denB_cons] at h
        split at h
        · cases h; omega
        · split at h
          · cases h; omega
          · split at h
            · cases h; omega
            · split at h
              · match u with
                | [] => cases h; exact absurd rfl hm
                | [a] => cases h; exact absurd rfl hm
                | a :: b :: x =>
                  rw [denX_two] at h
                  split at h
                  · cases h; omega
                  · cases h; exact absurd rfl hm
              · cases h; exact absurd rfl hm
      | d :: u, j + 1 =>
        rw [List.take_succ_cons, denB_cons]
        rw [denB_cons] at h
        split at h
        · rename_i e; rw [if_pos e]; exact h
        · rename_i e; rw [if_neg e]
          split at h
          · rename_i e2; rw [if_pos e2]; exact h
          · rename_i e2; rw [if_neg e2]
            split at h
            · rename_i e3; rw [if_pos e3]; exact h
            · rename_i e3; rw [if_neg e3]
              split at h
              · rename_i e4; rw [if_pos e4]
                match u, j with
                | [], _ => cases h; exact absurd rfl hm
                | [a], _ => cases h; exact absurd rfl hm
                | a :: b :: x, 0 =>
                  rw [denX_two] at h
                  split at h
                  · cases h; omega
                  · cases h; exact absurd rfl hm
                | a :: b :: x, 1 =>
                  rw [denX_two] at h
                  split at h
                  · cases h; omega
                  · cases h; exact absurd rfl hm
                | a :: b :: x, j + 2 =>
                  rw [List.take_succ_cons, List.take_succ_cons, denX_two]
                  rw [denX_two] at h
                  exact h
              · rename_i e4; rw [if_neg e4]; exact h
    · rw [if_neg h92] at h ⊢; exact h
theorem scD_take (n : Nat) : ∀ (l : List UInt8), l.length ≤ n → ∀ v m j, scD l = some (v, m) → m ≤ j → scD (l.take j) = some (v, m) := by
  induction n with
  | zero =>
    intro l hl v m j h
    cases l with
    | nil => rw [scD_nil] at h; cases h
    | cons c t => rw [List.length_cons] at hl; omega
  | succ n ih =>
    intro l hl v m j h hj
    have hin := scD_in _ _ (Nat.le_refl _) _ _ h
    cases l with
    | nil => rw [scD_nil] at h; cases h
    | cons c t =>
      cases j with
      | zero => omega
      | succ j =>
        by_cases hc : c = 34
        · subst hc
          rw [List.take_succ_cons, scD_end]
          rw [scD_end] at h; exact h
        · obtain ⟨x, hx⟩ : ∃ x, den (c :: t) = x := ⟨_, rfl⟩
          obtain ⟨y, i⟩ := x
          by_cases hi : i = 0
          · rw [scD_bad hc (by rw [hx]; exact hi)] at h; cases h
          · rw [scD_next hc hx hi] at h
            have hlen := den_len (c :: t)
            rw [hx] at hlen
            have hlen' : i ≤ (c :: t).length := hlen
            cases hr : scD ((c :: t).drop i) with
            | none => rw [hr] at h; cases h
            | some p =>
              obtain ⟨p1, p2⟩ := p
              rw [hr] at h
              have hp := scD_in _ _ (Nat.le_refl _) _ _ hr
              have hm : i + p2 = m := by cases h; rfl
              have hl2 : ((c :: t).drop i).length ≤ n := by rw [List.length_drop, List.length_cons]; rw [List.length_cons] at hl; omega
              have hd := den_take (c :: t) (j + 1) y i hx hi (by omega)
              have hrec := ih _ hl2 p1 p2 (j + 1 - i) hr (by omega)
              have e : ((c :: t).take (j + 1)).drop i = ((c :: t).drop i).take (j + 1 - i) := by rw [List.drop_take]
              rw [List.take_succ_cons] at hd e ⊢
              rw [scD_next hc hd hi, e, hrec]
              exact h
theorem scS_take : ∀ (l : List UInt8) v m j, scS l = some (v, m) → m ≤ j → scS (l.take j) = some (v, m)
  | [], v, m, j, h, hj => by rw [scS] at h; cases h
  | [c], v, m, j, h, hj => by
    have hin := scS_in _ _ _ h
    cases j with
    | zero => omega
    | succ j => rw [List.take_succ_cons, List.take_nil]; exact h
  | c :: d :: t, v, m, j, h, hj => by
    have hin := scS_in _ _ _ h
    match j with
    | 0 => omega
    | 1 =>
      rw [List.take_succ_cons, List.take_zero]
      have hm : m = 1 := by omega
      rw [scS] at h
      split at h
      · split at h
        · rename_i h39
          split at h
          · cases hr : scS t with
            | none => rw [hr] at h; cases h
            | some p =>
              obtain ⟨p1, p2⟩ := p
              rw [hr] at h
              cases h
              have : 2 + p2 ≤ 1 := hj
              omega
          · cases h
            rw [scS, if_pos h39]
        · cases hr : scS (d :: t) with
          | none => rw [hr] at h; cases h
          | some p =>
            obtain ⟨p1, p2⟩ := p
            rw [hr] at h
            have := scS_in _ _ _ hr
            cases h
            have : 1 + p2 ≤ 1 := hj
            omega
      · cases h
    | j + 2 =>
      rw [List.take_succ_cons, List.take_succ_cons, scS]
      rw [scS] at h
      split at h
      · rename_i hg
        rw [if_pos hg]
        split at h
        · rename_i h39
          rw [if_pos h39]
          split at h
          · rename_i hd
            rw [if_pos hd]
            cases hr : scS t with
            | none => rw [hr] at h; cases h
            | some p =>
              obtain ⟨p1, p2⟩ := p
              rw [hr] at h
              have hm : 2 + p2 = m := by cases h; rfl
              rw [scS_take t p1 p2 j hr (by omega)]
              exact h
          · rename_i hd
            rw [if_neg hd]; exact h
        · rename_i h39
          rw [if_neg h39]
          cases hr : scS (d :: t) with
          | none => rw [hr] at h; cases h
          | some p =>
            obtain ⟨p1, p2⟩ := p
            rw [hr] at h
            have hm : 1 + p2 = m := by cases h; rfl
            have := scS_take (d :: t) p1 p2 (j + 1) hr (by omega)
            rw [List.take_succ_cons] at this
            rw [this]
            exact h
      · cases h
/-- A quoted string ends with its quote. -/
theorem scD_last (n : Nat) : ∀ (l : List UInt8), l.length ≤ n → ∀ v m, scD l = some (v, m) → l[m - 1]?.getD 0 = 34 := by
  induction n with
  | zero =>
    intro l hl v m h
    cases l with
    | nil => rw [scD_nil] at h; cases h
    | cons c t => rw [List.length_cons] at hl; omega
  | succ n ih =>
    intro l hl v m h
    cases l with
    | nil => rw [scD_nil] at h; cases h
    | cons c t =>
      by_cases hc : c = 34
      · subst hc
        rw [scD_end] at h
        cases h; rfl
      · obtain ⟨x, hx⟩ : ∃ x, den (c :: t) = x := ⟨_, rfl⟩
        obtain ⟨y, i⟩ := x
        by_cases hi : i = 0
        · rw [scD_bad hc (by rw [hx]; exact hi)] at h; cases h
        · rw [scD_next hc hx hi] at h
          cases hr : scD ((c :: t).drop i) with
          | none => rw [hr] at h; cases h
          | some p =>
            obtain ⟨p1, p2⟩ := p
            rw [hr] at h
            have hin := scD_in _ _ (Nat.le_refl _) _ _ hr
            have hm : i + p2 = m := by cases h; rfl
            have hl2 : ((c :: t).drop i).length ≤ n := by rw [List.length_drop, List.length_cons]; rw [List.length_cons] at hl; omega
            have := ih _ hl2 p1 p2 hr
            rw [List.getElem?_drop] at this
            rw [show m - 1 = i + (p2 - 1) by omega]
            exact this
theorem scS_last : ∀ (l : List UInt8) v m, scS l = some (v, m) → l[m - 1]?.getD 0 = 39
  | [], v, m, h => by rw [scS] at h; cases h
  | [c], v, m, h => by
    rw [scS] at h
    split at h
    · rename_i hc; cases h; exact hc
    · cases h
  | c :: d :: t, v, m, h => by
    rw [scS] at h
    split at h
    · split at h
      · rename_i hc
        split at h
        · cases hr : scS t with
          | none => rw [hr] at h; cases h
          | some p =>
            obtain ⟨p1, p2⟩ := p
            rw [hr] at h
            have hin := scS_in _ _ _ hr
            have := scS_last t p1 p2 hr
            have hm : 2 + p2 = m := by cases h; rfl
            rw [show m - 1 = (p2 - 1) + 1 + 1 by omega, List.getElem?_cons_succ, List.getElem?_cons_succ]
            exact this
        · cases h; exact hc
      · cases hr : scS (d :: t) with
        | none => rw [hr] at h; cases h
        | some p =>
          obtain ⟨p1, p2⟩ := p
          rw [hr] at h
          have hin := scS_in _ _ _ hr
          have := scS_last (d :: t) p1 p2 hr
          have hm : 1 + p2 = m := by cases h; rfl
          rw [show m - 1 = (p2 - 1) + 1 by omega, List.getElem?_cons_succ]
          exact this
    · cases h
/-- A scan in a text that goes on as far as the quoted string. -/
theorem scan_take {l : List UInt8} {k m j : Nat} (hs : scanE l (k : Int) = 0) (hm : scanN l (k : Int) = (m : Int)) (hj : m ≤ j) (hjl : j ≤ l.length) :
    scanE (l.take j) (k : Int) = 0 ∧ scanN (l.take j) (k : Int) = (m : Int) ∧ k < m ∧ l.getD (m - 1) 0 ≠ 32 := by
  by_cases hq : isQuote l (k : Int) = true
  · have hqq := hq
    unfold isQuote at hq
    rw [Bool.and_eq_true, Bool.and_eq_true] at hq
    have hk : k < l.length := by have := of_decide_eq_true hq.1.2; omega
    have e1 : scanE l (k : Int) = outE (scanR l k) := by unfold scanE; rw [if_pos hqq, Int.toNat_natCast]
    have e3 : scanN l (k : Int) = outN (scanR l k) := by unfold scanN; rw [if_pos hqq, Int.toNat_natCast]
    rw [e1] at hs
    rw [e3] at hm
    cases hr : scanR l k with
    | none => rw [hr] at hs; cases hs
    | some p =>
      obtain ⟨v, m2⟩ := p
      rw [hr] at hm
      have hmm : m2 = m := by
        have : (m2 : Int) = (m : Int) := hm
        omega
      subst hmm
      have key : scanR (l.take j) k = some (v, m2) ∧ k < m2 ∧ l.getD (m2 - 1) 0 ≠ 32 := by
        unfold scanR at hr ⊢
        by_cases h34 : l.getD k 0 = 34
        · rw [if_pos h34] at hr
          unfold atD at hr
          cases hsd : scD (l.drop (k + 1)) with
          | none => rw [hsd] at hr; cases hr
          | some p =>
            obtain ⟨p1, p2⟩ := p
            rw [hsd] at hr
            have hin := scD_in _ _ (Nat.le_refl _) _ _ hsd
            have hm2 : k + 1 + p2 = m2 := by cases hr; rfl
            rw [getD_take (by omega), if_pos h34]
            unfold atD
            rw [List.drop_take, scD_take _ _ (Nat.le_refl _) _ _ _ hsd (by omega)]
            refine ⟨hr, by omega, ?_⟩
            have := scD_last _ _ (Nat.le_refl _) _ _ hsd
            rw [List.getElem?_drop] at this
            rw [List.getD_eq_getElem?_getD, show m2 - 1 = k + 1 + (p2 - 1) by omega, this]
            decide
        · rw [if_neg h34] at hr
          unfold atS at hr
          cases hsd : scS (l.drop (k + 1)) with
          | none => rw [hsd] at hr; cases hr
          | some p =>
            obtain ⟨p1, p2⟩ := p
            rw [hsd] at hr
            have hin := scS_in _ _ _ hsd
            have hm2 : k + 1 + p2 = m2 := by cases hr; rfl
            rw [getD_take (by omega), if_neg h34]
            unfold atS
            rw [List.drop_take, scS_take _ _ _ _ hsd (by omega)]
            refine ⟨hr, by omega, ?_⟩
            have := scS_last _ _ _ hsd
            rw [List.getElem?_drop] at this
            rw [List.getD_eq_getElem?_getD, show m2 - 1 = k + 1 + (p2 - 1) by omega, this]
            decide
      have hq2 : isQuote (l.take j) (k : Int) = true := by
        unfold isQuote at hqq ⊢
        have hkj : k < j := by omega
        rw [Int.toNat_natCast] at hqq ⊢
        rw [getD_take hkj, List.length_take, Nat.min_eq_left hjl, decide_eq_true (by omega : (0 : Int) ≤ (k : Int)), decide_eq_true (by omega : (k : Int) < (j : Int))]
        rw [decide_eq_true (by omega : (0 : Int) ≤ (k : Int)), decide_eq_true (by omega : (k : Int) < (l.length : Int))] at hqq
        exact hqq
      refine ⟨?_, ?_, key.2⟩
      · unfold scanE; rw [if_pos hq2, Int.toNat_natCast, key.1]; rfl
      · unfold scanN; rw [if_pos hq2, Int.toNat_natCast, key.1]; rfl
  · unfold scanE at hs
    rw [if_neg hq] at hs
    exact absurd hs (by decide)
end Q6
end Go.Proofs.YtjhojedicehcfaaDoor
