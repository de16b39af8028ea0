/- FloScn -/
import Derived.Test.YtecglpocmhkkiaaGreatDoorST4
set_option linter.unusedVariables false
set_option linter.unusedSimpArgs false
set_option maxRecDepth 100000
set_option maxHeartbeats 16000000
namespace Go.Proofs.YtecglpocmhkkiaaGreatDoor
namespace F9
open Nw N8 Q6
theorem den_pre (l r : L8) {m : Nat} (h : (den l).2 = m) (hm : m ≠ 0) : den (l.take m ++ r) = den l := by
 cases l with
 | nil => exact absurd h.symm hm
 | cons c t =>
  rw [den_cons] at h ⊢
  by_cases hc : c = 92
  ·rw [if_pos hc] at h
   cases t with
   | nil => exact absurd h.symm hm
   | cons d u =>
    rw [denB_cons] at h
    have two : ∀ v : UInt8 × Nat, v.2 = 2 → m = 2 → den ((c :: d :: u).take m ++ r) = denB (d :: r) := by
     intro v hv h2
     subst h2
     show den (c :: d :: r) = _
     rw [den_cons, if_pos hc]
    rw [if_pos hc, denB_cons]
    split at h
    ·rename_i h1
     rw [two (d, 2) rfl h.symm, denB_cons, if_pos h1, if_pos h1]
    ·rename_i h1
     split at h
     ·rename_i h2
      rw [two (10, 2) rfl h.symm, denB_cons, if_neg h1, if_pos h2, if_neg h1, if_pos h2]
     ·rename_i h2
      split at h
      ·rename_i h3
       rw [two (9, 2) rfl h.symm, denB_cons, if_neg h1, if_neg h2, if_pos h3, if_neg h1, if_neg h2, if_pos h3]
      ·rename_i h3
       split at h
       ·rename_i h4
        match u, h with
        | [], h => exact absurd h.symm hm
        | [a], h => exact absurd h.symm hm
        | a :: b :: u, h =>
         rw [denX_two] at h
         split at h
         ·rename_i h5
          have h6 : m = 4 := h.symm
          subst h6
          show den (c :: d :: a :: b :: r) = _
          rw [den_cons, if_pos hc, denB_cons, if_neg h1, if_neg h2, if_neg h3, if_pos h4, denX_two, if_pos h5, if_neg h1, if_neg h2, if_neg h3, if_pos h4, denX_two, if_pos h5]
         ·exact absurd h.symm hm
       ·exact absurd h.symm hm
  ·rw [if_neg hc] at h
   split at h
   ·rename_i hg
    have h6 : m = 1 := h.symm
    subst h6
    show den (c :: r) = _
    rw [den_cons, if_neg hc, if_pos hg, if_neg hc]
   ·exact absurd h.symm hm
theorem scD_pre : ∀ (N : Nat) (l : L8), l.length ≤ N → ∀ v n, scD l = some (v, n) → (∀ r, scD (l.take n ++ r) = some (v, n)) ∧ l.getD (n - 1) 0 = 34
 | _, [], _, v, n, h => by rw [scD_nil] at h; cases h
 | 0, c :: l, h, _, _, _ => by cases h
 | N + 1, c :: t, hN, v, n, h => by
  rw [List.length_cons] at hN
  by_cases hc : c = 34
  ·subst hc
   rw [scD_end] at h
   injection h with h
   injection h with h1 h2
   subst h1; subst h2
   exact ⟨fun r => scD_end _, rfl⟩
  ·by_cases hd : (den (c :: t)).2 = 0
   ·rw [scD_bad hc hd] at h; cases h
   ·obtain ⟨b, m, hbm⟩ : ∃ b m, den (c :: t) = (b, m) := ⟨_, _, rfl⟩
    have hm : m ≠ 0 := fun e => hd (by rw [hbm]; exact e)
    have hle : m ≤ (c :: t).length := by have := den_len (c :: t); rw [hbm] at this; exact this
    rw [List.length_cons] at hle
    rw [scD_next hc hbm hm] at h
    cases hs : scD ((c :: t).drop m) with
    | none => rw [hs] at h; cases h
    | some p =>
     obtain ⟨v1, n1⟩ := p
     rw [hs] at h
     have hl1 : ((c :: t).drop m).length ≤ N := by rw [List.length_drop, List.length_cons]; omega
     obtain ⟨h1, h2⟩ := scD_pre N _ hl1 v1 n1 hs
     obtain ⟨g1, g2⟩ := scD_facts N _ hl1 v1 n1 hs
     have h9 : some (b :: v1, m + n1) = some (v, n) := h
     injection h9 with h9
     injection h9 with e1 e2
     subst e1; subst e2
     refine ⟨fun r => ?_, ?_⟩
     ·have e : (c :: t).take (m + n1) ++ r = (c :: t).take m ++ (((c :: t).drop m).take n1 ++ r) := by
       rw [← List.append_assoc, ← List.take_add]
      have hp := den_pre (c :: t) (((c :: t).drop m).take n1 ++ r) (by rw [hbm]) hm
      rw [hbm] at hp
      rw [e]
      have hmp : ∃ m', m = m' + 1 := ⟨m - 1, by omega⟩
      obtain ⟨m', rfl⟩ := hmp
      rw [List.take_succ_cons, List.cons_append] at hp ⊢
      rw [scD_next hc hp hm]
      have e2 : (c :: (t.take m' ++ (((c :: t).drop (m' + 1)).take n1 ++ r))).drop (m' + 1) = ((c :: t).drop (m' + 1)).take n1 ++ r := by
       rw [List.drop_succ_cons, List.drop_left' (by rw [List.length_take]; omega)]
      rw [e2, h1 r]
      rfl
     ·rw [← h2, List.getD_eq_getElem?_getD, List.getD_eq_getElem?_getD, List.getElem?_drop]
      congr 2
      omega
theorem scS_pre : ∀ (N : Nat) (l : L8), l.length ≤ N → ∀ v n, scS l = some (v, n) → (∀ r : L8, r.headD 0 ≠ 39 → scS (l.take n ++ r) = some (v, n)) ∧ l.getD (n - 1) 0 = 39
 | _, [], _, v, n, h => by cases h
 | 0, c :: l, h, _, _, _ => by cases h
 | N + 1, [c], hN, v, n, h => by
  unfold scS at h
  split at h
  ·rename_i hc
   subst hc
   injection h with h
   injection h with h1 h2
   subst h1; subst h2
   refine ⟨fun r hr => ?_, rfl⟩
   cases r with
   | nil => show scS [39] = _; unfold scS; rw [if_pos rfl]
   | cons d r => show scS (39 :: d :: r) = _; rw [scS, if_pos (by decide), if_pos rfl, if_neg (show ¬ d = 39 from hr)]
  ·cases h
 | N + 1, c :: d :: t, hN, v, n, h => by
  rw [List.length_cons, List.length_cons] at hN
  rw [scS] at h
  split at h
  ·rename_i hg
   split at h
   ·rename_i hc
    subst hc
    split at h
    ·rename_i hd
     subst hd
     cases hs : scS t with
     | none => rw [hs] at h; cases h
     | some p =>
      obtain ⟨v1, n1⟩ := p
      rw [hs] at h
      have h9 : some ([39] ++ v1, 2 + n1) = some (v, n) := h
      injection h9 with h9
      injection h9 with e1 e2
      subst e1; subst e2
      obtain ⟨h1, h2⟩ := scS_pre N t (by omega) v1 n1 hs
      obtain ⟨g1, g2⟩ := scS_facts N t (by omega) v1 n1 hs
      refine ⟨fun r hr => ?_, ?_⟩
      ·rw [show 2 + n1 = n1 + 1 + 1 by omega, List.take_succ_cons, List.take_succ_cons]
       show scS (39 :: 39 :: (t.take n1 ++ r)) = _
       rw [scS, if_pos hg, if_pos rfl, if_pos rfl, h1 r hr]
       show some ([39] ++ v1, 2 + n1) = _
       rw [Nat.add_comm 2 n1]
      ·rw [← h2, show 2 + n1 - 1 = n1 - 1 + 1 + 1 by omega]
       rfl
    ·rename_i hd
     injection h with h
     injection h with h1 h2
     subst h1; subst h2
     refine ⟨fun r hr => ?_, rfl⟩
     cases r with
     | nil => show scS [39] = _; unfold scS; rw [if_pos rfl]
     | cons e r => show scS (39 :: e :: r) = _; rw [scS, if_pos (by decide), if_pos rfl, if_neg (show ¬ e = 39 from hr)]
   ·rename_i hc
    cases hs : scS (d :: t) with
    | none => rw [hs] at h; cases h
    | some p =>
     obtain ⟨v1, n1⟩ := p
     rw [hs] at h
     have h9 : some ([c] ++ v1, 1 + n1) = some (v, n) := h
     injection h9 with h9
     injection h9 with e1 e2
     subst e1; subst e2
     obtain ⟨h1, h2⟩ := scS_pre N (d :: t) (by rw [List.length_cons]; omega) v1 n1 hs
     obtain ⟨g1, g2⟩ := scS_facts N (d :: t) (by rw [List.length_cons]; omega) v1 n1 hs
     obtain ⟨n2, rfl⟩ : ∃ n2, n1 = n2 + 1 := ⟨n1 - 1, by omega⟩
     refine ⟨fun r hr => ?_, ?_⟩
     ·have h3 := h1 r hr
      rw [List.take_succ_cons, List.cons_append] at h3
      rw [show 1 + (n2 + 1) = n2 + 1 + 1 by omega, List.take_succ_cons, List.take_succ_cons]
      show scS (c :: d :: (t.take n2 ++ r)) = _
      rw [scS, if_pos hg, if_neg hc, h3]
      show some ([c] ++ v1, 1 + (n2 + 1)) = _
      rw [Nat.add_comm 1]
     ·rw [← h2, show 1 + (n2 + 1) - 1 = n2 + 1 by omega]
      rfl
  ·cases h
theorem scn_pre {c : UInt8} {t v : L8} {n : Nat} (hq : isQ c = true) (h : scnP (c :: t) = some (v, n)) :
  (∀ r : L8, r.headD 0 ≠ 39 → scnP ((c :: t).take n ++ r) = some (v, n)) ∧ isQ ((c :: t).getD (n - 1) 0) = true ∧ 2 ≤ n := by
 obtain ⟨f1, f2⟩ := scn_facts h (by simp)
 unfold scnP scanR at h ⊢
 have hd : (c :: t).drop (0 + 1) = t := rfl
 by_cases hc : c = 34
 ·rw [if_pos (show (c :: t).getD 0 0 = 34 from hc)] at h
  unfold atD at h
  rw [hd] at h
  cases hs : scD t with
  | none => rw [hs] at h; cases h
  | some p =>
   obtain ⟨v1, n1⟩ := p
   rw [hs] at h
   have h9 : some ([] ++ v1, 0 + 1 + n1) = some (v, n) := h
   injection h9 with h9
   injection h9 with e1 e2
   subst e1; subst e2
   obtain ⟨h1, h2⟩ := scD_pre t.length t (Nat.le_refl _) v1 n1 hs
   obtain ⟨g1, g2⟩ := scD_facts t.length t (Nat.le_refl _) v1 n1 hs
   refine ⟨fun r hr => ?_, ?_, by omega⟩
   ·rw [show 0 + 1 + n1 = n1 + 1 by omega, List.take_succ_cons, List.cons_append, if_pos (show (c :: (t.take n1 ++ r)).getD 0 0 = 34 from hc)]
    unfold atD
    rw [show (c :: (t.take n1 ++ r)).drop (0 + 1) = t.take n1 ++ r from rfl, h1 r]
    show some ([] ++ v1, 0 + 1 + n1) = _
    rw [show 0 + 1 + n1 = n1 + 1 by omega]
   ·rw [show 0 + 1 + n1 - 1 = (n1 - 1) + 1 by omega]
    show isQ (t.getD (n1 - 1) 0) = true
    rw [h2]; rfl
 ·rw [if_neg (show ¬ (c :: t).getD 0 0 = 34 from hc)] at h
  unfold atS at h
  rw [hd] at h
  cases hs : scS t with
  | none => rw [hs] at h; cases h
  | some p =>
   obtain ⟨v1, n1⟩ := p
   rw [hs] at h
   have h9 : some ([] ++ v1, 0 + 1 + n1) = some (v, n) := h
   injection h9 with h9
   injection h9 with e1 e2
   subst e1; subst e2
   obtain ⟨h1, h2⟩ := scS_pre t.length t (Nat.le_refl _) v1 n1 hs
   obtain ⟨g1, g2⟩ := scS_facts t.length t (Nat.le_refl _) v1 n1 hs
   refine ⟨fun r hr => ?_, ?_, by omega⟩
   ·rw [show 0 + 1 + n1 = n1 + 1 by omega, List.take_succ_cons, List.cons_append, if_neg (show ¬ (c :: (t.take n1 ++ r)).getD 0 0 = 34 from hc)]
    unfold atS
    rw [show (c :: (t.take n1 ++ r)).drop (0 + 1) = t.take n1 ++ r from rfl, h1 r hr]
    show some ([] ++ v1, 0 + 1 + n1) = _
    rw [show 0 + 1 + n1 = n1 + 1 by omega]
   ·rw [show 0 + 1 + n1 - 1 = (n1 - 1) + 1 by omega]
    show isQ (t.getD (n1 - 1) 0) = true
    rw [h2]; rfl
end F9
end Go.Proofs.YtecglpocmhkkiaaGreatDoor
