/- FloScn, FloMach -/
import Derived.Test.YtmdgpejedbkkdaaGreatDoorWT19
import Derived.Test.YtmdgpejedbkkdaaGreatDoorWT5
import Derived.Test.YtmdgpejedbkkdaaGreatDoorWT6
set_option linter.unusedVariables false
set_option linter.unusedSimpArgs false
set_option maxRecDepth 100000
set_option maxHeartbeats 16000000
namespace Go.Proofs.YtmdgpejedbkkdaaGreatDoor
namespace F9
open Nw N8 Q6
theorem den_pre (l r : L8) {m : Nat} (h : (den l).2 = m) (hm : m ≠ 0) : den (l.take m ++ r) = den l := by
 cases l with
 | nil => exact absurd h.symm hm
 | cons c t =>
  rw [den_cons] at h ⊢
  by_cases hc : c = 92
  ·rw [if_pos hc] at h
   cases t with
   | nil => exact absurd h.symm hm
   | cons d u =>
    rw [denB_cons] at h
    have two : ∀ v : UInt8 × Nat, v.2 = 2 → m = 2 → den ((c :: d :: u).take m ++ r) = denB (d :: r) := by
     intro v hv h2
     subst h2
     show den (c :: d :: r) = _
     rw [den_cons, if_pos hc]
    rw [if_pos hc, denB_cons]
    split at h
    ·rename_i h1
     rw [two (d, 2) rfl h.symm, denB_cons, if_pos h1, if_pos h1]
    ·rename_i h1
     split at h
     ·rename_i h2
      rw [two (10, 2) rfl h.symm, denB_cons, if_neg h1, if_pos h2, if_neg h1, if_pos h2]
     ·rename_i h2
      split at h
      ·rename_i h3
       rw [two (9, 2) rfl h.symm, denB_cons, if_neg h1, if_neg h2, if_pos h3, if_neg h1, if_neg h2, if_pos h3]
      ·rename_i h3
       split at h
       ·rename_i h4
        match u, h with
        | [], h => exact absurd h.symm hm
        | [a], h => exact absurd h.symm hm
        | a :: b :: u, h =>
         rw [denX_two] at h
         split at h
         ·rename_i h5
          have h6 : m = 4 := h.symm
          subst h6
          show den (c :: d :: a :: b :: r) = _
          rw [den_cons, if_pos hc, denB_cons, if_neg h1, if_neg h2, if_neg h3, if_pos h4, denX_two, if_pos h5, if_neg h1, if_neg h2, if_neg h3, if_pos h4, denX_two, if_pos h5]
         ·exact absurd h.symm hm
       ·exact absurd h.symm hm
  ·rw [if_neg hc] at h
   split at h
   ·rename_i hg
    have h6 : m = 1 := h.symm
    subst h6
    show den (c :: r) = _
    rw [den_cons, if_neg hc, if_pos hg, if_neg hc]
   ·exact absurd h.symm hm
theorem scD_pre : ∀ (N : Nat) (l : L8), l.length ≤ N → ∀ v n, scD l = some (v, n) → (∀ r, scD (l.take n ++ r) = some (v, n)) ∧ l.getD (n - 1) 0 = 34
 | _, [], _, v, n, h => by rw [scD_nil] at h; cases h
 | 0, c :: l, h, _, _, _ => by cases h
 | N + 1, c :: t, hN, v, n, h => by
  rw [List.length_cons] at hN
  by_cases hc : c = 34
  ·subst hc
   rw [scD_end] at h
   injection h with h
   injection h with h1 h2
   subst h1; subst h2
   exact ⟨fun r => scD_end _, rfl⟩
  ·by_cases hd : (den (c :: t)).2 = 0
   ·rw [scD_bad hc hd] at h; cases h
   ·obtain ⟨b, m, hbm⟩ : ∃ b m, den (c :: t) = (b, m) := ⟨_, _, rfl⟩
    have hm : m ≠ 0 := fun e => hd (by rw [hbm]; exact e)
    have hle : m ≤ (c :: t).length := by have := den_len (c :: t); rw [hbm] at this; exact this
    rw [List.length_cons] at hle
    rw [scD_next hc hbm hm] at h
    cases hs : scD ((c :: t).drop m) with
    | none => rw [hs] at h; cases h
    | some p =>
     obtain ⟨v1, n1⟩ := p
     rw [hs] at h
     have hl1 : ((c :: t).drop m).length ≤ N := by rw [List.length_drop, List.length_cons]; omega
     obtain ⟨h1, h2⟩ := scD_pre N _ hl1 v1 n1 hs
     obtain ⟨g1, g2⟩ := scD_facts N _ hl1 v1 n1 hs
     have h9 : some (b :: v1, m + n1) = some (v, n) := h
     injection h9 with h9
     injection h9 with e1 e2
     subst e1; subst e2
     refine ⟨fun r => ?_, ?_⟩
     ·have e : (c :: t).take (m + n1) ++ r = (c :: t).take m ++ (((c :: t).drop m).take n1 ++ r) := by
       rw [← List.append_assoc, ← List.take_add]
      have hp := den_pre (c :: t) (((c :: t).drop m).take n1 ++ r) (by rw [hbm]) hm
      rw [hbm] at hp
      rw [e]
      have hmp : ∃ m', m = m' + 1 := ⟨m - 1, by omega⟩
      obtain ⟨m', rfl⟩ := hmp
      rw [List.take_succ_cons, List.cons_append] at hp ⊢
      rw [scD_next hc hp hm]
      have e2 : (c :: (t.take m' ++ (((c :: t).drop (m' + 1)).take n1 ++ r))).drop (m' + 1) = ((c :: t).drop (m' + 1)).take n1 ++ r := by
       rw [List.drop_succ_cons, List.drop_left' (by rw [List.length_take]; omega)]
      rw [e2, h1 r]
      rfl
     ·rw [← h2, List.getD_eq_getElem?_getD, List.getD_eq_getElem?_getD, List.getElem?_drop]
      congr 2
      omega
theorem scS_pre : ∀ (N : Nat) (l : L8), l.length ≤ N → ∀ v n, scS l = some (v, n) → (∀ r : L8, r.headD 0 ≠ 39 → scS (l.take n ++ r) = some (v, n)) ∧ l.getD (n - 1) 0 = 39
 | _, [], _, v, n, h => by cases h
 | 0, c :: l, h, _, _, _ => by cases h
 | N + 1, [c], hN, v, n, h => by
  unfold scS at h
  split at h
  ·rename_i hc
   subst hc
   injection h with h
   injection h with h1 h2
   subst h1; subst h2
   refine ⟨fun r hr => ?_, rfl⟩
   cases r with
   | nil => show scS [39] = _; unfold scS; rw [if_pos rfl]
   | cons d r => show scS (39 :: d :: r) = _; rw [scS, if_pos (by decide), if_pos rfl, if_neg (show ¬ d = 39 from hr)]
  ·cases h
 | N + 1, c :: d :: t, hN, v, n, h => by
  rw [List.length_cons, List.length_cons] at hN
  rw [scS] at h
  split at h
  ·rename_i hg
   split at h
   ·rename_i hc
    subst hc
    split at h
    ·rename_i hd
     subst hd
     cases hs : scS t with
     | none => rw [hs] at h; cases h
     | some p =>
      obtain ⟨v1, n1⟩ := p
      rw [hs] at h
      have h9 : some ([39] ++ v1, 2 + n1) = some (v, n) := h
      injection h9 with h9
      injection h9 with e1 e2
      subst e1; subst e2
      obtain ⟨h1, h2⟩ := scS_pre N t (by omega) v1 n1 hs
      obtain ⟨g1, g2⟩ := scS_facts N t (by omega) v1 n1 hs
      refine ⟨fun r hr => ?_, ?_⟩
      ·rw [show 2 + n1 = n1 + 1 + 1 by omega, List.take_succ_cons, List.take_succ_cons]
       show scS (39 :: 39 :: (t.take n1 ++ r)) = _
       rw [scS, if_pos hg, if_pos rfl, if_pos rfl, h1 r hr]
       show some ([39] ++ v1, 2 + n1) = _
       rw [Nat.add_comm 2 n1]
      ·rw [← h2, show 2 + n1 - 1 = n1 - 1 + 1 + 1 by omega]
       rfl
    ·rename_i hd
     injection h with h
     injection h with h1 h2
     subst h1; subst h2
     refine ⟨fun r hr => ?_, rfl⟩
     cases r with
     | nil => show scS [39] = _; unfold scS; rw [if_pos rfl]
     | cons e r => show scS (39 :: e :: r) = _; rw [scS, if_pos (by decide), if_pos rfl, if_neg (show ¬ e = 39 from hr)]
   ·rename_i hc
    cases hs : scS (d :: t) with
    | none => rw [hs] at h; cases h
    | some p =>
     obtain ⟨v1, n1⟩ := p
     rw [hs] at h
     have h9 : some ([c] ++ v1, 1 + n1) = some (v, n) := h
     injection h9 with h9
     injection h9 with e1 e2
     subst e1; subst e2
     obtain ⟨h1, h2⟩ := scS_pre N (d :: t) (by rw [List.length_cons]; omega) v1 n1 hs
     obtain ⟨g1, g2⟩ := scS_facts N (d :: t) (by rw [List.length_cons]; omega) v1 n1 hs
     obtain ⟨n2, rfl⟩ : ∃ n2, n1 = n2 + 1 := ⟨n1 - 1, by omega⟩
     refine ⟨fun r hr => ?_, ?_⟩
     ·have h3 := h1 r hr
      rw [List.take_succ_cons, List.cons_append] at h3
      rw [show 1 + (n2 + 1) = n2 + 1 + 1 by omega, List.take_succ_cons, List.take_succ_cons]
      show scS (c :: d :: (t.take n2 ++ r)) = _
      rw [scS, if_pos hg, if_neg hc, h3]
      show some ([c] ++ v1, 1 + (n2 + 1)) = _
      rw [Nat.add_comm 1]
     ·rw [← h2, show 1 + (n2 + 1) - 1 = n2 + 1 by omega]
      rfl
  ·cases h
theorem scn_pre {c : UInt8} {t v : L8} {n : Nat} (hq : isQ c = true) (h : scnP (c :: t) = some (v, n)) :
  (∀ r : L8, r.headD 0 ≠ 39 → scnP ((c :: t).take n ++ r) = some (v, n)) ∧ isQ ((c :: t).getD (n - 1) 0) = true ∧ 2 ≤ n := by
 obtain ⟨f1, f2⟩ := scn_facts h (by simp)
 unfold scnP scanR at h ⊢
 have hd : (c :: t).drop (0 + 1) = t := rfl
 by_cases hc : c = 34
 ·rw [if_pos (show (c :: t).getD 0 0 = 34 from hc)] at h
  unfold atD at h
  rw [hd] at h
  cases hs : scD t with
  | none => rw [hs] at h; cases h
  | some p =>
   obtain ⟨v1, n1⟩ := p
   rw [hs] at h
   have h9 : some ([] ++ v1, 0 + 1 + n1) = some (v, n) := h
   injection h9 with h9
   injection h9 with e1 e2
   subst e1; subst e2
   obtain ⟨h1, h2⟩ := scD_pre t.length t (Nat.le_refl _) v1 n1 hs
   obtain ⟨g1, g2⟩ := scD_facts t.length t (Nat.le_refl _) v1 n1 hs
   refine ⟨fun r hr => ?_, ?_, by omega⟩
   ·rw [show 0 + 1 + n1 = n1 + 1 by omega, List.take_succ_cons, List.cons_append, if_pos (show (c :: (t.take n1 ++ r)).getD 0 0 = 34 from hc)]
    unfold atD
    rw [show (c :: (t.take n1 ++ r)).drop (0 + 1) = t.take n1 ++ r from rfl, h1 r]
    show some ([] ++ v1, 0 + 1 + n1) = _
    rw [show 0 + 1 + n1 = n1 + 1 by omega]
   ·rw [show 0 + 1 + n1 - 1 = (n1 - 1) + 1 by omega]
    show isQ (t.getD (n1 - 1) 0) = true
    rw [h2]; rfl
 ·rw [if_neg (show ¬ (c :: t).getD 0 0 = 34 from hc)] at h
  unfold atS at h
  rw [hd] at h
  cases hs : scS t with
  | none => rw [hs] at h; cases h
  | some p =>
   obtain ⟨v1, n1⟩ := p
   rw [hs] at h
   have h9 : some ([] ++ v1, 0 + 1 + n1) = some (v, n) := h
   injection h9 with h9
   injection h9 with e1 e2
   subst e1; subst e2
   obtain ⟨h1, h2⟩ := scS_pre t.length t (Nat.le_refl _) v1 n1 hs
   obtain ⟨g1, g2⟩ := scS_facts t.length t (Nat.le_refl _) v1 n1 hs
   refine ⟨fun r hr => ?_, ?_, by omega⟩
   ·rw [show 0 + 1 + n1 = n1 + 1 by omega, List.take_succ_cons, List.cons_append, if_neg (show ¬ (c :: (t.take n1 ++ r)).getD 0 0 = 34 from hc)]
    unfold atS
    rw [show (c :: (t.take n1 ++ r)).drop (0 + 1) = t.take n1 ++ r from rfl, h1 r hr]
    show some ([] ++ v1, 0 + 1 + n1) = _
    rw [show 0 + 1 + n1 = n1 + 1 by omega]
   ·rw [show 0 + 1 + n1 - 1 = (n1 - 1) + 1 by omega]
    show isQ (t.getD (n1 - 1) 0) = true
    rw [h2]; rfl
end F9
end Go.Proofs.YtmdgpejedbkkdaaGreatDoor
namespace Go.Proofs.YtmdgpejedbkkdaaGreatDoor
namespace F9
open Nw N8 Q6
structure Fr where
 k : Int
 ks : List L8
 ds : List Nd
def Fr.nd (f : Fr) : Nd := .mk f.k [] f.ks f.ds
def Fr.add (f : Fr) (d : Nd) : Fr := ⟨f.k, f.ks, f.ds ++ [d]⟩
def Fr.key (f : Fr) (x : L8) : Fr := ⟨f.k, f.ks ++ [x], f.ds⟩
def clo (k : Int) : UInt8 := if k = 2 then 93 else 125
def colP (f : Fr) (l : L8) : Option (Nd × Nat) := if f.k = 2 then rowP l f.ds else prsP l f.ks f.ds
def thn (f : Fr) (S : List Fr) (l : L8) : Option Nd :=
 match S with
 | [] => if l.length = blk l then f.ds.head? else none
 | g :: S =>
  if (l.drop (blk l)).headD 0 = clo f.k then thn (g.add f.nd) S (l.drop (blk l + 1))
  else if (l.drop (blk l)).headD 0 = 44 then
   match colP f (l.drop (blk l + 1)) with
   | none => none
   | some p => thn (g.add p.1) S (l.drop (blk l + 1 + p.2))
  else none
 termination_by S
def val (f : Fr) (S : List Fr) (l : L8) : Option Nd :=
 match valP (l.drop (blk l)) with
 | none => none
 | some p => if f.k = 2 ∧ p.2 = 0 then none else thn (f.add p.1) S (l.drop (blk l + p.2))
def elm (f : Fr) (S : List Fr) (l : L8) : Option Nd :=
 if f.k = 3 then
  match keyP (l.drop (blk l)) with
  | none => none
  | some p => if p.1 ∈ f.ks then none else val (f.key p.1) S (l.drop (blk l + p.2))
 else val f S l
theorem par_val (l : L8) : parP l = val ⟨0, [], []⟩ [] l := by
 unfold parP val
 cases valP (l.drop (blk l)) with
 | none => rfl
 | some p =>
  show (if (l.drop (blk l + p.2)).length = blk (l.drop (blk l + p.2)) then some p.1 else none) = if (0 : Int) = 2 ∧ p.2 = 0 then none else thn (Fr.add ⟨0, [], []⟩ p.1) [] (l.drop (blk l + p.2))
  rw [if_neg (show ¬ ((0 : Int) = 2 ∧ p.2 = 0) from fun h => absurd h.1 (by decide)), thn]
  rfl
theorem thn_at (f g : Fr) (S : List Fr) (l : L8) {c n : Nat} (hn : c + blk (l.drop c) = n) :
  thn f (g :: S) (l.drop c) = if (l.drop n).headD 0 = clo f.k then thn (g.add f.nd) S (l.drop (n + 1)) else if (l.drop n).headD 0 = 44 then
   match colP f (l.drop (n + 1)) with | none => none | some p => thn (g.add p.1) S (l.drop (n + 1 + p.2)) else none := by
 have e1 : (l.drop c).drop (blk (l.drop c)) = l.drop n := by rw [List.drop_drop, hn]
 have e2 : (l.drop c).drop (blk (l.drop c) + 1) = l.drop (n + 1) := by rw [List.drop_drop, ← Nat.add_assoc, hn]
 have e3 : ∀ k, (l.drop c).drop (blk (l.drop c) + 1 + k) = l.drop (n + 1 + k) := fun k => by rw [List.drop_drop, ← hn]; congr 1; omega
 rw [thn, e1, e2]
 simp only [e3]
theorem elm_col {f g : Fr} {S : List Fr} {l : L8} (hk : f.k = 2 ∧ f.ks = [] ∨ f.k = 3) :
  elm f (g :: S) l = match colP f l with | none => none | some p => thn (g.add p.1) S (l.drop p.2) := by
 rcases hk with ⟨hk, hks⟩ | hk
 ·unfold elm colP
  rw [if_neg (by rw [hk]; decide), if_pos hk]
  unfold val
  cases hv : valP (l.drop (blk l)) with
  | none => rw [row_none hv]
  | some p =>
   obtain ⟨d, m⟩ := p
   by_cases hm : m = 0
   ·subst hm
    rw [row_zero hv]
    exact if_pos ⟨hk, rfl⟩
   ·show (if f.k = 2 ∧ m = 0 then none else thn (f.add d) (g :: S) (l.drop (blk l + m))) = _
    obtain ⟨n, hn⟩ : ∃ n, blk l + m + blk (l.drop (blk l + m)) = n := ⟨_, rfl⟩
    rw [if_neg (fun h => hm h.2), row_eq hv hm hn, thn_at _ _ _ _ hn, show clo (f.add d).k = 93 from if_pos hk]
    split
    ·rw [show (f.add d).nd = .mk 2 [] [] (f.ds ++ [d]) from by show Nd.mk f.k [] f.ks (f.ds ++ [d]) = _; rw [hk, hks]]
    ·split
     ·rw [show colP (f.add d) (l.drop (n + 1)) = rowP (l.drop (n + 1)) (f.ds ++ [d]) from if_pos hk]
      cases rowP (l.drop (n + 1)) (f.ds ++ [d]) <;> rfl
     ·rfl
 ·unfold elm colP
  rw [if_pos hk, if_neg (by rw [hk]; decide)]
  cases hx : keyP (l.drop (blk l)) with
  | none => rw [prs_none hx]
  | some p =>
   obtain ⟨x, j⟩ := p
   by_cases hm : x ∈ f.ks
   ·rw [prs_twice hx hm]
    exact if_pos hm
   ·show (if x ∈ f.ks then none else val (f.key x) (g :: S) (l.drop (blk l + j))) = _
    rw [if_neg hm]
    unfold val
    obtain ⟨a, ha⟩ : ∃ a, blk l + j + blk (l.drop (blk l + j)) = a := ⟨_, rfl⟩
    have e0 : (l.drop (blk l + j)).drop (blk (l.drop (blk l + j))) = l.drop a := by rw [List.drop_drop, ha]
    rw [e0]
    cases hv : valP (l.drop a) with
    | none => rw [prs_noval hx ha hv]
    | some q =>
     obtain ⟨d, m⟩ := q
     obtain ⟨n, hn⟩ : ∃ n, a + m + blk (l.drop (a + m)) = n := ⟨_, rfl⟩
     have e3 : (l.drop (blk l + j)).drop (blk (l.drop (blk l + j)) + m) = l.drop (a + m) := by rw [List.drop_drop, ← Nat.add_assoc, ha]
     show (if (f.key x).k = 2 ∧ m = 0 then none else thn ((f.key x).add d) (g :: S) ((l.drop (blk l + j)).drop (blk (l.drop (blk l + j)) + m))) = _
     rw [if_neg (fun h => absurd (hk.symm.trans h.1) (by decide)), prs_eq hx hm ha hv hn, e3, thn_at _ _ _ _ hn, show clo ((f.key x).add d).k = 125 from if_neg (by show ¬ f.k = 2; rw [hk]; decide)]
     split
     ·rw [show ((f.key x).add d).nd = .mk 3 [] (f.ks ++ [x]) (f.ds ++ [d]) from by show Nd.mk f.k [] (f.ks ++ [x]) (f.ds ++ [d]) = _; rw [hk]]
     ·split
      ·rw [show colP ((f.key x).add d) (l.drop (n + 1)) = prsP (l.drop (n + 1)) (f.ks ++ [x]) (f.ds ++ [d]) from if_neg (by show ¬ f.k = 2; rw [hk]; decide)]
       cases prsP (l.drop (n + 1)) (f.ks ++ [x]) (f.ds ++ [d]) <;> rfl
      ·rfl
theorem thn_eq {f g : Fr} {S : List Fr} {l : L8} (hk : f.k = 2 ∧ f.ks = [] ∨ f.k = 3) :
  thn f (g :: S) l = if (l.drop (blk l)).headD 0 = clo f.k then thn (g.add f.nd) S (l.drop (blk l + 1)) else if (l.drop (blk l)).headD 0 = 44 then elm f (g :: S) (l.drop (blk l + 1)) else none := by
 rw [thn, elm_col hk]
 split
 ·rfl
 ·split
  ·cases colP f (l.drop (blk l + 1)) with
   | none => rfl
   | some p => show thn _ S _ = thn _ S _; rw [List.drop_drop]
  ·rfl
theorem thn_end (f : Fr) (l : L8) : thn f [] l = if l.length = blk l then f.ds.head? else none := by rw [thn]
theorem val_row2 {f : Fr} {S : List Fr} {l t : L8} (h : l.drop (blk l) = 91 :: t) :
  val f S l = if (t.drop (blk t)).headD 0 = 93 then thn ⟨2, [], []⟩ (f :: S) t else elm ⟨2, [], []⟩ (f :: S) t := by
 have hd : ∀ k, l.drop (blk l + (1 + k)) = t.drop k := fun k => by rw [← List.drop_drop, h, Nat.add_comm 1 k]; rfl
 unfold val
 rw [h, val_row]
 by_cases h9 : (t.drop (blk t)).headD 0 = 93
 ·rw [if_pos h9, show rowR t = some (.mk 2 [] [] [], blk t + 1) from if_pos h9, thn, if_pos (show (t.drop (blk t)).headD 0 = clo 2 from h9)]
  show (if f.k = 2 ∧ 1 + (blk t + 1) = 0 then none else thn (f.add (.mk 2 [] [] [])) S (l.drop (blk l + (1 + (blk t + 1))))) = _
  rw [if_neg (by omega), hd]
  rfl
 ·rw [if_neg h9, show rowR t = rowP t [] from if_neg h9, elm_col (.inl ⟨rfl, rfl⟩)]
  show _ = match rowP t [] with | none => none | some p => thn (f.add p.1) S (t.drop p.2)
  cases rowP t [] with
  | none => rfl
  | some p =>
   show (if f.k = 2 ∧ 1 + p.2 = 0 then none else thn (f.add p.1) S (l.drop (blk l + (1 + p.2)))) = _
   rw [if_neg (by omega), hd]
theorem val_prs2 {f : Fr} {S : List Fr} {l t : L8} (h : l.drop (blk l) = 123 :: t) :
  val f S l = if (t.drop (blk t)).headD 0 = 125 then thn ⟨3, [], []⟩ (f :: S) t else elm ⟨3, [], []⟩ (f :: S) t := by
 have hd : ∀ k, l.drop (blk l + (1 + k)) = t.drop k := fun k => by rw [← List.drop_drop, h, Nat.add_comm 1 k]; rfl
 unfold val
 rw [h, val_prs]
 by_cases h9 : (t.drop (blk t)).headD 0 = 125
 ·rw [if_pos h9, show prsR t = some (.mk 3 [] [] [], blk t + 1) from if_pos h9, thn, if_pos (show (t.drop (blk t)).headD 0 = clo 3 from h9)]
  show (if f.k = 2 ∧ 1 + (blk t + 1) = 0 then none else thn (f.add (.mk 3 [] [] [])) S (l.drop (blk l + (1 + (blk t + 1))))) = _
  rw [if_neg (by omega), hd]
  rfl
 ·rw [if_neg h9, show prsR t = prsP t [] [] from if_neg h9, elm_col (.inr rfl)]
  show _ = match prsP t [] [] with | none => none | some p => thn (f.add p.1) S (t.drop p.2)
  cases prsP t [] [] with
  | none => rfl
  | some p =>
   show (if f.k = 2 ∧ 1 + p.2 = 0 then none else thn (f.add p.1) S (l.drop (blk l + (1 + p.2)))) = _
   rw [if_neg (by omega), hd]
def tkn (l : L8) : Nat := if isQ (l.headD 0) then (match scnP l with | some p => p.2 | none => pln l) else pln l
def frm (l : L8) : L8 := trm (l.take (tkn l))
theorem tkn_le (l : L8) : tkn l ≤ l.length := by
 unfold tkn
 split
 ·rename_i hq
  cases hs : scnP l with
  | none => exact pln_le l
  | some p =>
   obtain ⟨v, n⟩ := p
   exact (scn_facts hs (fun e => by subst e; exact absurd hq (by decide))).2
 ·exact pln_le l
theorem quo_bad3 {c : UInt8} {t : L8} (h : isQ c = true) : bad3 (c :: t) = false ∧ rowB (c :: t) = false := by
 have hc : c = 34 ∨ c = 39 := by
  unfold isQ at h
  rw [Bool.or_eq_true] at h
  rcases h with h | h
  ·exact .inl (of_decide_eq_true h)
  ·exact .inr (of_decide_eq_true h)
 constructor
 ·unfold bad3
  rcases hc with rfl | rfl <;> simp
 ·rw [Bool.eq_false_iff]
  intro e
  have h2 : has firsts c = false := (row_first e).2
  clear e
  rcases hc with rfl | rfl <;> exact absurd h2 (by decide)
theorem trm_keep {l : L8} (h : l.getD (l.length - 1) 0 ≠ 32) : trm l = l := by
 unfold trm
 rw [Lib.trimRightB_take l 32 l.length (Nat.le_refl _) ?_ ?_, List.take_length]
 ·intro j b hj hb
  rw [List.getElem?_eq_none hj] at hb; cases hb
 ·intro b h0 hb
  rw [List.getD_eq_getElem?_getD, hb] at h
  exact h
theorem pln_stop {l : L8} (h : pln l < l.length) : stops (l.getD (pln l) 0) (l.drop (pln l + 1)) = true := by
 induction l with
 | nil => exact absurd h (Nat.not_lt_zero _)
 | cons c l ih =>
  rw [pln] at h ⊢
  split at h
  ·rename_i hs
   rw [if_pos hs]; exact hs
  ·rename_i hs
   rw [if_neg hs]
   exact ih (Nat.lt_of_succ_lt_succ h)
theorem trm_split (l : L8) : ∃ n, n ≤ l.length ∧ trm l = l.take n ∧ (∀ i, n ≤ i → i < l.length → l.getD i 0 = 32) ∧ (0 < n → l.getD (n - 1) 0 ≠ 32) := by
 suffices h : ∀ m, m ≤ l.length → (∀ i, m ≤ i → i < l.length → l.getD i 0 = 32) → ∃ n, n ≤ l.length ∧ trm l = l.take n ∧ (∀ i, n ≤ i → i < l.length → l.getD i 0 = 32) ∧ (0 < n → l.getD (n - 1) 0 ≠ 32) from
  h l.length (Nat.le_refl _) fun i h1 h2 => absurd h1 (by omega)
 have fin : ∀ m, m ≤ l.length → (∀ i, m ≤ i → i < l.length → l.getD i 0 = 32) → (0 < m → l.getD (m - 1) 0 ≠ 32) → trm l = l.take m := by
  intro m hm h1 h2
  refine Lib.trimRightB_take l 32 m hm (fun j b hj hb => ?_) fun b h0 hb => ?_
  ·have hl : j < l.length := (List.getElem?_eq_some_iff.1 hb).1
   have := h1 j hj hl
   rw [List.getD_eq_getElem?_getD, hb] at this
   exact this
  ·have := h2 h0
   rw [List.getD_eq_getElem?_getD, hb] at this
   exact this
 intro m
 induction m with
 | zero => intro hm h1; exact ⟨0, hm, fin 0 hm h1 (fun h => absurd h (by omega)), h1, fun h => absurd h (by omega)⟩
 | succ m ih =>
  intro hm h1
  by_cases h2 : l.getD m 0 = 32
  ·refine ih (by omega) fun i hi hl => ?_
   by_cases he : i = m
   ·rw [he]; exact h2
   ·exact h1 i (by omega) hl
  ·exact ⟨m + 1, hm, fin _ hm h1 (fun _ => h2), h1, fun _ => h2⟩
theorem stops_39 {c : UInt8} {l : L8} (h : stops c l = true) : c ≠ 39 ∧ c ≠ 34 ∧ c ≠ 32 := by
 refine ⟨?_, ?_, ?_⟩ <;> (rintro rfl; unfold stops at h; revert h; simp [has, marks, isC])
theorem val_scl {l : L8} (hb : blk l = 0) (h1 : l.headD 0 ≠ 91) (h2 : l.headD 0 ≠ 123) : valP l = (sclS true (frm l)).map fun d => (d, tkn l) := by
 cases l with
 | nil => rw [show valP [] = some (nul, 0) from by rw [valP]]; rfl
 | cons c t =>
  have h1 : c ≠ 91 := h1
  have h2 : c ≠ 123 := h2
  have h32 : c ≠ 32 := by
   rintro rfl
   rw [blk_cons, if_pos rfl] at hb
   cases hb
  cases hq : isQ c with
  | true =>
   rw [val_quoted h1 h2 hq]
   cases hs : scnP (c :: t) with
   | some p =>
    obtain ⟨v, n⟩ := p
    obtain ⟨p1, p2, p3⟩ := scn_pre hq hs
    obtain ⟨f1, f2⟩ := scn_facts hs (by simp)
    have ht : tkn (c :: t) = n := by
     unfold tkn
     rw [show isQ ((c :: t).headD 0) = true from hq, if_pos rfl, hs]
    have hlen : ((c :: t).take n).length = n := by rw [List.length_take]; omega
    have hf : frm (c :: t) = (c :: t).take n := by
     unfold frm
     rw [ht]
     refine trm_keep ?_
     rw [hlen]
     intro e
     have e2 : ((c :: t).take n).getD (n - 1) 0 = (c :: t).getD (n - 1) 0 := by
      rw [List.getD_eq_getElem?_getD, List.getElem?_take_of_lt (by omega), ← List.getD_eq_getElem?_getD]
     rw [← e2, e] at p2
     exact absurd p2 (by decide)
    have hn : ∃ n', n = n' + 1 := ⟨n - 1, by omega⟩
    obtain ⟨n', rfl⟩ := hn
    rw [ht, hf]
    have hp := p1 [] (by decide)
    rw [List.append_nil] at hp
    unfold sclS
    rw [List.take_succ_cons] at hp hlen ⊢
    rw [(quo_bad3 hq).1, if_neg Bool.false_ne_true, show isQ ((c :: t.take n').headD 0) = true from hq, hp, hlen]
    simp
   | none =>
    have ht : tkn (c :: t) = pln (c :: t) := by
     unfold tkn
     rw [show isQ ((c :: t).headD 0) = true from hq, if_pos rfl, hs]
    obtain ⟨n, g1, g2, g3, g4⟩ := trm_split ((c :: t).take (pln (c :: t)))
    have hf : frm (c :: t) = ((c :: t).take (pln (c :: t))).take n := by unfold frm; rw [ht, g2]
    have hpl : pln (c :: t) ≠ 0 := by
     rw [pln]
     split
     ·rename_i h9
      have h9 := stops_39 h9
      exfalso
      unfold isQ at hq
      rw [Bool.or_eq_true] at hq
      rcases hq with hq | hq
      ·exact h9.2.1 (of_decide_eq_true hq)
      ·exact h9.1 (of_decide_eq_true hq)
     ·omega
    have hple := pln_le (c :: t)
    have g1' : n ≤ pln (c :: t) := by rw [List.length_take] at g1; omega
    have htl : ((c :: t).take (pln (c :: t))).length = pln (c :: t) := by rw [List.length_take]; omega
    have hn0 : n ≠ 0 := by
     rintro rfl
     have := g3 0 (Nat.le_refl _) (by rw [htl]; omega)
     rw [List.getD_eq_getElem?_getD, List.getElem?_take_of_lt (by omega)] at this
     exact h32 this
    have hf2 : frm (c :: t) = (c :: t).take n := by rw [hf, List.take_take, Nat.min_eq_left g1']
    -- were what is cut a quoted text, the scan would have found it
    have hno : (scnP ((c :: t).take n)).map (·.2) ≠ some ((c :: t).take n).length := by
     intro e
     cases hs2 : scnP ((c :: t).take n) with
     | none => rw [hs2] at e; cases e
     | some p =>
      obtain ⟨v, m⟩ := p
      rw [hs2] at e
      have hm : m = ((c :: t).take n).length := by injection e
      have hnn : ∃ n', n = n' + 1 := ⟨n - 1, by omega⟩
      obtain ⟨n', rfl⟩ := hnn
      rw [List.take_succ_cons] at hs2
      obtain ⟨p1, -, -⟩ := scn_pre hq hs2
      have hnext : ((c :: t).drop (n' + 1)).headD 0 ≠ 39 := by
       intro e9
       have hlt : n' + 1 < (c :: t).length := by
        rcases Nat.lt_or_ge (n' + 1) (c :: t).length with h | h
        ·exact h
        ·rw [List.drop_of_length_le h] at e9; exact absurd e9 (by decide)
       have e8 : (c :: t).getD (n' + 1) 0 = 39 := by
        rw [drop_cons hlt] at e9; exact e9
       by_cases hlt2 : n' + 1 < pln (c :: t)
       ·have := g3 (n' + 1) (Nat.le_refl _) (by rw [htl]; exact hlt2)
        rw [List.getD_eq_getElem?_getD, List.getElem?_take_of_lt hlt2, ← List.getD_eq_getElem?_getD, e8] at this
        exact absurd this (by decide)
       ·have e7 : pln (c :: t) = n' + 1 := by omega
        have := (stops_39 (pln_stop (l := c :: t) (by rw [e7]; exact hlt))).1
        rw [e7] at this
        exact this e8
      have h9 := p1 ((c :: t).drop (n' + 1)) hnext
      have e6 : (c :: t.take n').take m = c :: t.take n' := by
       rw [List.take_of_length_le]
       rw [hm, List.take_succ_cons]
       exact Nat.le_refl _
      rw [e6, ← List.take_succ_cons, List.take_append_drop] at h9
      rw [hs] at h9
      cases h9
    have hnn : ∃ n', n = n' + 1 := ⟨n - 1, by omega⟩
    obtain ⟨n', rfl⟩ := hnn
    rw [hf2]
    unfold sclS
    rw [show decide ((scnP ((c :: t).take (n' + 1))).map (·.2) = some ((c :: t).take (n' + 1)).length) = false from decide_eq_false hno, List.take_succ_cons, (quo_bad3 hq).1, if_neg Bool.false_ne_true, Bool.and_false, if_neg Bool.false_ne_true, if_pos rfl, (quo_bad3 hq).2]
    rfl
  | false =>
   rw [val_plain h1 h2 hq]
   have ht : tkn (c :: t) = pln (c :: t) := by
    unfold tkn
    rw [show isQ ((c :: t).headD 0) = false from hq, if_neg Bool.false_ne_true]
   have hf : frm (c :: t) = trm ((c :: t).take (pln (c :: t))) := by unfold frm; rw [ht]
   have hhd : isQ ((trm ((c :: t).take (pln (c :: t)))).headD 0) = false := by
    obtain ⟨n, g1, g2, -, -⟩ := trm_split ((c :: t).take (pln (c :: t)))
    rw [g2]
    cases n with
    | zero => rfl
    | succ n =>
     cases hp : pln (c :: t) with
     | zero => rfl
     | succ m => exact hq
   rw [ht, hf]
   unfold sclP sclS
   rw [hhd, Bool.false_and, if_neg Bool.false_ne_true, if_pos rfl]
theorem frm_nil {l : L8} (hb : blk l = 0) (hl : l ≠ []) : frm l = [] ↔ tkn l = 0 := by
 cases l with
 | nil => exact absurd rfl hl
 | cons c t =>
  have h32 : c ≠ 32 := by
   rintro rfl
   rw [blk_cons, if_pos rfl] at hb
   cases hb
  constructor
  ·intro h
   unfold frm at h
   have hle := tkn_le (c :: t)
   obtain ⟨n, g1, g2, g3, -⟩ := trm_split ((c :: t).take (tkn (c :: t)))
   have htl : ((c :: t).take (tkn (c :: t))).length = tkn (c :: t) := by rw [List.length_take]; omega
   rw [g2] at h
   rcases Nat.eq_zero_or_pos (tkn (c :: t)) with h0 | h0
   ·exact h0
   ·exfalso
    have hl9 : (((c :: t).take (tkn (c :: t))).take n).length = 0 := by rw [h]; rfl
    rw [List.length_take, htl] at hl9
    have := g3 0 (by omega) (by rw [htl]; exact h0)
    rw [List.getD_eq_getElem?_getD, List.getElem?_take_of_lt h0] at this
    exact h32 this
  ·intro h
   unfold frm
   rw [h]; rfl
end F9
end Go.Proofs.YtmdgpejedbkkdaaGreatDoor
