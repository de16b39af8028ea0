/- BloFacts, LinSame, BloSmall -/
import Derived.Test.YtmdgpejedbkkdaaGreatDoorBT5
set_option linter.unusedVariables false
set_option linter.unusedSimpArgs false
set_option maxRecDepth 100000
set_option maxHeartbeats 16000000
namespace Go.Proofs.YtmdgpejedbkkdaaGreatDoor
namespace B10
open Nw N8 Q6 F9
def kidS (n : Nat) (x : Ln) (l : List Ln) : Res := if 1 < x.text.length then blkB (cut1 x :: l) else if deep n l then (blkB l).more 1 else .ok nul 1
def kidM (n : Nat) (x : Ln) (l : List Ln) (r : L8) : Res := if r ≠ [] then valL r x.no else if deep n l || even n l then (blkB l).more 1 else .ok nul 1
def nextS (n : Nat) (ad : List Nd) (l : List Ln) : Res → Res
 | .bad no e => .bad no e
 | .ok d k => (seqB n (ad ++ [d]) (l.drop (k - 1))).more (k - 1 + 1)
def nextM (n : Nat) (ak : List L8) (ad : List Nd) (l : List Ln) (y : L8) : Res → Res
 | .bad no e => .bad no e
 | .ok d k => (mapB n (ak ++ [y]) (ad ++ [d]) (l.drop (k - 1))).more (k - 1 + 1)
theorem blk_seq {x : Ln} {l : List Ln} (h : hyp x.text = true) : blkB (x :: l) = seqB x.ind [] (x :: l) := by rw [blkB, if_pos h]
theorem blk_map {x : Ln} {l : List Ln} {p : L8 × L8} (h : hyp x.text = false) (he : entP x.text = some (some p)) : blkB (x :: l) = mapB x.ind [] [] (x :: l) := by
 rw [blkB, if_neg (by rw [h]; decide), he]
theorem blk_val {x : Ln} {l : List Ln} (h : hyp x.text = false) (he : entP x.text = some none) : blkB (x :: l) = valL x.text x.no := by
 rw [blkB, if_neg (by rw [h]; decide), he]
theorem blk_bad {x : Ln} {l : List Ln} (h : hyp x.text = false) (he : entP x.text = none) : blkB (x :: l) = .bad x.no 3 := by
 rw [blkB, if_neg (by rw [h]; decide), he]
theorem seq_nil (n : Nat) (ad : List Nd) : seqB n ad [] = .ok (.mk 2 [] [] ad) 0 := by rw [seqB]
theorem seq_low {n : Nat} {ad : List Nd} {x : Ln} {l : List Ln} (h : x.ind < n) : seqB n ad (x :: l) = .ok (.mk 2 [] [] ad) 0 := by rw [seqB, if_pos h]
theorem seq_high {n : Nat} {ad : List Nd} {x : Ln} {l : List Ln} (h : n < x.ind) : seqB n ad (x :: l) = .bad x.no 3 := by rw [seqB, if_neg (by omega), if_pos h]
theorem seq_other {n : Nat} {ad : List Nd} {x : Ln} {l : List Ln} (h : x.ind = n) (hy : hyp x.text = false) : seqB n ad (x :: l) = .ok (.mk 2 [] [] ad) 0 := by
 rw [seqB, if_neg (by omega), if_neg (by omega), if_pos hy]
theorem seq_kid {n : Nat} {ad : List Nd} {x : Ln} {l : List Ln} (h : x.ind = n) (hy : hyp x.text = true) : seqB n ad (x :: l) = nextS n ad l (kidS n x l) := by
 rw [seqB, if_neg (by omega), if_neg (by omega), if_neg (by rw [hy]; decide)]
 unfold kidS
 by_cases h1 : 1 < x.text.length
 ·rw [dif_pos h1, if_pos h1]
  cases blkB (cut1 x :: l) <;> rfl
 ·rw [dif_neg h1, if_neg h1]
  cases (if deep n l = true then (blkB l).more 1 else Res.ok nul 1) <;> rfl
theorem map_nil (n : Nat) (ak : List L8) (ad : List Nd) : mapB n ak ad [] = .ok (.mk 3 [] ak ad) 0 := by rw [mapB]
theorem map_low {n : Nat} {ak : List L8} {ad : List Nd} {x : Ln} {l : List Ln} (h : x.ind < n) : mapB n ak ad (x :: l) = .ok (.mk 3 [] ak ad) 0 := by rw [mapB, if_pos h]
theorem map_high {n : Nat} {ak : List L8} {ad : List Nd} {x : Ln} {l : List Ln} (h : n < x.ind) : mapB n ak ad (x :: l) = .bad x.no 3 := by rw [mapB, if_neg (by omega), if_pos h]
theorem map_bad {n : Nat} {ak : List L8} {ad : List Nd} {x : Ln} {l : List Ln} (h : x.ind = n) (he : entP x.text = none) : mapB n ak ad (x :: l) = .bad x.no 3 := by
 rw [mapB, if_neg (by omega), if_neg (by omega), he]
theorem map_other {n : Nat} {ak : List L8} {ad : List Nd} {x : Ln} {l : List Ln} (h : x.ind = n) (he : entP x.text = some none) : mapB n ak ad (x :: l) = .ok (.mk 3 [] ak ad) 0 := by
 rw [mapB, if_neg (by omega), if_neg (by omega), he]
theorem map_twice {n : Nat} {ak : List L8} {ad : List Nd} {x : Ln} {l : List Ln} {y r : L8} (h : x.ind = n) (he : entP x.text = some (some (y, r))) (hy : y ∈ ak) : mapB n ak ad (x :: l) = .bad x.no 3 := by
 rw [mapB, if_neg (by omega), if_neg (by omega), he]
 exact if_pos hy
theorem map_kid {n : Nat} {ak : List L8} {ad : List Nd} {x : Ln} {l : List Ln} {y r : L8} (h : x.ind = n) (he : entP x.text = some (some (y, r))) (hy : y ∉ ak) : mapB n ak ad (x :: l) = nextM n ak ad l y (kidM n x l r) := by
 rw [mapB, if_neg (by omega), if_neg (by omega), he]
 show (if y ∈ ak then _ else _) = _
 rw [if_neg hy]
 show (match kidM n x l r with | .bad no e => Res.bad no e | .ok d k => (mapB n (ak ++ [y]) (ad ++ [d]) (l.drop (k - 1))).more (k - 1 + 1)) = _
 cases kidM n x l r <;> rfl
theorem val_one {l : L8} {no : Nat} {d : Nd} {k : Nat} (h : valL l no = .ok d k) : k = 1 := by
 unfold valL at h
 split at h
 ·split at h
  ·injection h with h1 h2; exact h2.symm
  ·cases h
 ·split at h
  ·cases h
  ·injection h with h1 h2; exact h2.symm
theorem more_ok {j : Nat} {r : Res} {d : Nd} {k : Nat} (h : r.more j = .ok d k) : ∃ m, r = .ok d m ∧ k = j + m := by
 cases r with
 | bad no e => cases h
 | ok d2 m => injection h with h1 h2; exact ⟨m, by rw [h1], h2.symm⟩
theorem blk_facts : ∀ (N : Nat),
  (∀ x l, 2 * big (x :: l) + 1 ≤ N → ∀ d k, blkB (x :: l) = .ok d k → 1 ≤ k ∧ k ≤ (x :: l).length) ∧
  (∀ n ad l, 2 * big l ≤ N → ∀ d k, seqB n ad l = .ok d k → k ≤ l.length ∧ (∀ x t, l = x :: t → x.ind = n → hyp x.text = true → 1 ≤ k)) ∧
  (∀ n ak ad l, 2 * big l ≤ N → ∀ d k, mapB n ak ad l = .ok d k → k ≤ l.length ∧ (∀ x t p, l = x :: t → x.ind = n → entP x.text = some (some p) → 1 ≤ k)) := by
 intro N
 induction N with
 | zero =>
  refine ⟨fun x l h => absurd h (by omega), fun n ad l h d k hk => ?_, fun n ak ad l h d k hk => ?_⟩
  ·cases l with
   | nil =>
    rw [seq_nil] at hk
    injection hk with h1 h2
    exact ⟨by omega, fun x t e => by cases e⟩
   | cons x l => simp only [big] at h; omega
  ·cases l with
   | nil =>
    rw [map_nil] at hk
    injection hk with h1 h2
    exact ⟨by omega, fun x t p e => by cases e⟩
   | cons x l => simp only [big] at h; omega
 | succ N ih =>
  obtain ⟨ih1, ih2, ih3⟩ := ih
  have drop_len : ∀ (l : List Ln) (k m : Nat), 1 ≤ k → k ≤ l.length + 1 → m ≤ (l.drop (k - 1)).length → k - 1 + 1 + m ≤ l.length + 1 := fun l k m h1 h2 h3 => by
   rw [List.length_drop] at h3; omega
  refine ⟨fun x l h d k hk => ?_, fun n ad l h d k hk => ?_, fun n ak ad l h d k hk => ?_⟩
  ·cases hh : hyp x.text with
   | true =>
    rw [blk_seq hh] at hk
    have h2 := ih2 x.ind [] (x :: l) (by omega) d k hk
    exact ⟨h2.2 x l rfl rfl hh, h2.1⟩
   | false =>
    cases he : entP x.text with
    | none => rw [blk_bad hh he] at hk; cases hk
    | some o =>
     cases o with
     | none =>
      rw [blk_val hh he] at hk
      have := val_one hk
      exact ⟨by omega, by simp; omega⟩
     | some p =>
      rw [blk_map hh he] at hk
      have h2 := ih3 x.ind [] [] (x :: l) (by omega) d k hk
      exact ⟨h2.2 x l p rfl rfl he, h2.1⟩
  ·cases l with
   | nil =>
    rw [seq_nil] at hk
    injection hk with h1 h2
    exact ⟨by omega, fun x t e => by cases e⟩
   | cons x l =>
    have hbig : big (x :: l) = 1 + x.text.length + big l := rfl
    rcases Nat.lt_trichotomy x.ind n with hlt | heq | hgt
    ·rw [seq_low hlt] at hk
     injection hk with h1 h2
     exact ⟨by omega, fun y t e he => by injection e with e1 e2; subst e1; omega⟩
    ·cases hh : hyp x.text with
     | false =>
      rw [seq_other heq hh] at hk
      injection hk with h1 h2
      exact ⟨by omega, fun y t e _ he => by injection e with e1 e2; subst e1; rw [hh] at he; cases he⟩
     | true =>
      rw [seq_kid heq hh] at hk
      have hkid : ∀ d2 k2, kidS n x l = .ok d2 k2 → 1 ≤ k2 ∧ k2 ≤ l.length + 1 := fun d2 k2 h2 => by
       unfold kidS at h2
       split at h2
       ·rename_i h1
        have hc := cut1_lt h1
        have := ih1 (cut1 x) l (by simp only [big]; omega) d2 k2 h2
        exact ⟨this.1, by simpa using this.2⟩
       ·split at h2
        ·obtain ⟨m, hm1, hm2⟩ := more_ok h2
         cases l with
         | nil => rename_i hdp; cases hdp
         | cons z l =>
          have := ih1 z l (by simp only [big] at h ⊢; omega) d2 m hm1
          have h3 := this.2
          exact ⟨by omega, by omega⟩
        ·injection h2 with h3 h4
         exact ⟨by omega, by omega⟩
      cases hkr : kidS n x l with
      | bad no e => rw [hkr] at hk; cases hk
      | ok d2 k2 =>
       rw [hkr] at hk
       obtain ⟨m, hm1, hm2⟩ := more_ok hk
       have hb := big_drop (k2 - 1) l
       have h2 := ih2 n (ad ++ [d2]) (l.drop (k2 - 1)) (by omega) d m hm1
       obtain ⟨h5, h6⟩ := hkid d2 k2 hkr
       have := drop_len l k2 m h5 h6 h2.1
       exact ⟨by rw [List.length_cons]; omega, fun _ _ _ _ _ => by omega⟩
    ·rw [seq_high hgt] at hk; cases hk
  ·cases l with
   | nil =>
    rw [map_nil] at hk
    injection hk with h1 h2
    exact ⟨by omega, fun x t p e => by cases e⟩
   | cons x l =>
    have hbig : big (x :: l) = 1 + x.text.length + big l := rfl
    rcases Nat.lt_trichotomy x.ind n with hlt | heq | hgt
    ·rw [map_low hlt] at hk
     injection hk with h1 h2
     exact ⟨by omega, fun y t p e he => by injection e with e1 e2; subst e1; omega⟩
    ·cases he : entP x.text with
     | none => rw [map_bad heq he] at hk; cases hk
     | some o =>
      cases o with
      | none =>
       rw [map_other heq he] at hk
       injection hk with h1 h2
       exact ⟨by omega, fun y t p e _ h9 => by injection e with e1 e2; subst e1; rw [he] at h9; cases h9⟩
      | some p =>
       obtain ⟨y, r⟩ := p
       by_cases hy : y ∈ ak
       ·rw [map_twice heq he hy] at hk; cases hk
       ·rw [map_kid heq he hy] at hk
        have hkid : ∀ d2 k2, kidM n x l r = .ok d2 k2 → 1 ≤ k2 ∧ k2 ≤ l.length + 1 := fun d2 k2 h2 => by
         unfold kidM at h2
         split at h2
         ·have := val_one h2
          exact ⟨by omega, by omega⟩
         ·split at h2
          ·obtain ⟨m, hm1, hm2⟩ := more_ok h2
           cases l with
           | nil => rename_i hdp; cases hdp
           | cons z l =>
            have := ih1 z l (by simp only [big] at h ⊢; omega) d2 m hm1
            have h3 := this.2
            exact ⟨by omega, by omega⟩
          ·injection h2 with h3 h4
           exact ⟨by omega, by omega⟩
        cases hkr : kidM n x l r with
        | bad no e => rw [hkr] at hk; cases hk
        | ok d2 k2 =>
         rw [hkr] at hk
         obtain ⟨m, hm1, hm2⟩ := more_ok hk
         have hb := big_drop (k2 - 1) l
         have h2 := ih3 n (ak ++ [y]) (ad ++ [d2]) (l.drop (k2 - 1)) (by omega) d m hm1
         obtain ⟨h5, h6⟩ := hkid d2 k2 hkr
         have := drop_len l k2 m h5 h6 h2.1
         exact ⟨by rw [List.length_cons]; omega, fun _ _ _ _ _ _ => by omega⟩
    ·rw [map_high hgt] at hk; cases hk
theorem blk_took {x : Ln} {l : List Ln} {d : Nd} {k : Nat} (h : blkB (x :: l) = .ok d k) : 1 ≤ k ∧ k ≤ l.length + 1 := (blk_facts _).1 x l (Nat.le_refl _) d k h
end B10
end Go.Proofs.YtmdgpejedbkkdaaGreatDoor
namespace Go.Proofs.YtmdgpejedbkkdaaGreatDoor
namespace Q6
theorem trimN_full {l : List UInt8} {n : Nat} (hn : 0 < n) (h : l.getD (n - 1) 0 ≠ 32) : trimN l n = n := by
 cases n with
 | zero => omega
 | succ n => unfold trimN; rw [if_neg (show ¬ l.getD n 0 = 32 from h)]
def lineL (x : Ln) : List UInt8 := List.replicate x.ind 32 ++ x.text
def joinL (ls : List Ln) : List UInt8 := (ls.map fun x => lineL x ++ [10]).flatten
theorem joinL_cons (x : Ln) (ls : List Ln) : joinL (x :: ls) = lineL x ++ 10 :: joinL ls := by unfold joinL; simp
theorem joinL_nil : joinL [] = [] := rfl
def Fine (x : Ln) : Prop := x.text ≠ [] ∧ (∀ c ∈ x.text, c ≠ 10) ∧ x.text.getD 0 0 ≠ 32 ∧ x.text.getD 0 0 ≠ 35 ∧ x.text.getD (x.text.length - 1) 0 ≠ 32 ∧ sayL x.text = some x.text ∧ ¬ (x.ind = 0 ∧ marker x.text = true)
theorem indN_rep (k : Nat) (t : List UInt8) (h : t.getD 0 0 ≠ 32) : indN (List.replicate k 32 ++ t) = k := by
 induction k with
 | zero =>
  show indN t = 0
  unfold indN
  cases t with
  | nil => rfl
  | cons c t =>
   have hc : c ≠ 32 := h
   rw [List.takeWhile_cons, decide_eq_false hc]; rfl
 | succ k ih =>
  unfold indN at ih ⊢
  rw [List.replicate_succ, List.cons_append, List.takeWhile_cons]
  simp only [decide_true, if_true, List.length_cons]
  rw [ih]
theorem rep_drop (k : Nat) (t : List UInt8) : (List.replicate k 32 ++ t).drop k = t := by
 rw [List.drop_append, List.drop_of_length_le (by rw [List.length_replicate]; exact Nat.le_refl _), List.length_replicate, Nat.sub_self]; rfl
theorem oneL_fine {x : Ln} (h : Fine x) : oneL (lineL x) = some (x.ind, x.text) := by
 obtain ⟨h1, h2, h3, h4, h5, h6, h7⟩ := h
 unfold oneL lineL
 rw [indN_rep _ _ h3, rep_drop, h6]
 show (if x.ind = 0 ∧ marker x.text = true then none else some (x.ind, x.text)) = _
 rw [if_neg h7]
theorem rowN_line {r t : List UInt8} (h : ∀ c ∈ r, c ≠ 10) : rowN (r ++ 10 :: t) = r.length := by
 unfold rowN
 induction r with
 | nil => rfl
 | cons c r ih =>
  rw [List.cons_append, List.takeWhile_cons, decide_eq_true (h c (List.mem_cons_self ..))]
  simp only [if_true, List.length_cons]
  rw [ih fun x hx => h x (List.mem_cons_of_mem _ hx)]
theorem lineL_no {x : Ln} (h : Fine x) : ∀ c ∈ lineL x, c ≠ 10 := by
 intro c hc
 unfold lineL at hc
 rcases List.mem_append.1 hc with hc | hc
 ·rw [List.eq_of_mem_replicate hc]; decide
 ·exact h.2.1 c hc
def again : Nat → List Ln → List Ln
 | _, [] => []
 | no, x :: ls => ⟨no + 1, x.ind, x.text⟩ :: again (no + 1) ls
theorem split_join : ∀ (ls : List Ln) (no : Nat) (acc : List Ln), (∀ x ∈ ls, Fine x) → splitL no acc (joinL ls) = (acc ++ again no ls, 0, 0)
 | [], no, acc, _ => by rw [joinL_nil, splitL_nil]; unfold again; rw [List.append_nil]
 | x :: ls, no, acc, h => by
  have hx := h x (List.mem_cons_self ..)
  have hrow := rowN_line (t := joinL ls) (lineL_no hx)
  have hne : joinL (x :: ls) ≠ [] := by rw [joinL_cons]; simp
  have htake : (joinL (x :: ls)).take (rowN (joinL (x :: ls))) = lineL x := by rw [joinL_cons, hrow]; exact List.take_left
  have hdrop : (joinL (x :: ls)).drop (rowN (joinL (x :: ls)) + 1) = joinL ls := by
   rw [joinL_cons, hrow, List.drop_append, List.drop_of_length_le (Nat.le_succ _), List.nil_append, show (lineL x).length + 1 - (lineL x).length = 1 by omega]; rfl
  rw [splitL_next hne (by rw [htake]; exact oneL_fine hx), hdrop, if_neg hx.1, split_join ls (no + 1) _ fun y hy => h y (List.mem_cons_of_mem _ hy)]
  show _ = (acc ++ (⟨no + 1, x.ind, x.text⟩ :: again (no + 1) ls), 0, 0)
  rw [List.append_assoc]; rfl
theorem takeWhile_le (p : UInt8 → Bool) (l : List UInt8) : (l.takeWhile p).length ≤ l.length := by
 induction l with
 | nil => exact Nat.le_refl _
 | cons b l ih =>
  rw [List.takeWhile_cons]
  split
  ·rw [List.length_cons, List.length_cons]; omega
  ·exact Nat.zero_le _
theorem indN_le (l : List UInt8) : indN l ≤ l.length := by unfold indN; exact takeWhile_le _ _
end Q6
end Go.Proofs.YtmdgpejedbkkdaaGreatDoor
namespace Go.Proofs.YtmdgpejedbkkdaaGreatDoor
namespace B10
open Nw N8 Q6 F9
theorem one_small {row t : L8} {k : Nat} (h : oneL row = some (k, t)) : k + t.length ≤ row.length := by
 unfold oneL at h
 have h1 : indN row ≤ row.length := indN_le _
 cases hs : sayL (row.drop (indN row)) with
 | none => rw [hs] at h; cases h
 | some t2 =>
  rw [hs] at h
  have h : (if indN row = 0 ∧ marker t2 = true then none else some (indN row, t2)) = some (k, t) := h
  split at h
  ·cases h
  ·injection h with h
   injection h with h2 h3
   subst h2; subst h3
   unfold sayL at hs
   cases he : endAt (row.drop (indN row)) 0 with
   | none => rw [he] at hs; cases hs
   | some e =>
    rw [he] at hs
    injection hs with hs
    rw [← hs, List.length_take, List.length_drop]
    omega
theorem split_small : ∀ (N : Nat) (l : L8), l.length ≤ N → ∀ no acc ls n E, splitL no acc l = (ls, n, E) → ls.length ≤ acc.length + l.length ∧ ∀ x ∈ ls, x ∈ acc ∨ x.ind + x.text.length ≤ l.length := by
 intro N
 induction N with
 | zero =>
  intro l hl no acc ls n E h
  obtain rfl : l = [] := List.length_eq_zero_iff.1 (by omega)
  rw [splitL, dif_pos rfl] at h
  injection h with h1 h2
  subst h1
  exact ⟨by omega, fun x hx => .inl hx⟩
 | succ N ih =>
  intro l hl no acc ls n E h
  by_cases h0 : l = []
  ·subst h0
   rw [splitL, dif_pos rfl] at h
   injection h with h1 h2
   subst h1
   exact ⟨by omega, fun x hx => .inl hx⟩
  ·have hlp := List.length_pos_iff.2 h0
   cases h1 : oneL (l.take (rowN l)) with
   | none =>
    rw [splitL_bad h0 h1] at h
    injection h with h2 h3
    subst h2
    exact ⟨Nat.zero_le _, fun x hx => by cases hx⟩
   | some p =>
    obtain ⟨k, t⟩ := p
    rw [splitL_next h0 h1] at h
    have hd : (l.drop (rowN l + 1)).length = l.length - (rowN l + 1) := List.length_drop ..
    have ho := one_small h1
    have ht : (l.take (rowN l)).length ≤ l.length := by rw [List.length_take]; omega
    obtain ⟨a1, a2⟩ := ih (l.drop (rowN l + 1)) (by omega) _ _ ls n E h
    refine ⟨?_, fun x hx => ?_⟩
    ·split at a1
     ·omega
     ·rw [List.length_append, List.length_singleton] at a1; omega
    ·rcases a2 x hx with h2 | h2
     ·split at h2
      ·exact .inl h2
      ·rcases List.mem_append.1 h2 with h2 | h2
       ·exact .inl h2
       ·rw [List.mem_singleton] at h2
        subst h2
        exact .inr (Nat.le_trans ho ht)
     ·exact .inr (by omega)
theorem file_small {l : L8} {ls : List Ln} {n : Nat} {E : Int} (h : fileL l = (ls, n, E)) : ls.length ≤ 8192 ∧ ∀ x ∈ ls, x.ind + x.text.length ≤ 8192 := by
 unfold fileL at h
 split at h
 ·injection h with h1 h2
  subst h1
  exact ⟨Nat.zero_le _, fun x hx => by cases hx⟩
 ·obtain ⟨h1, h2⟩ := split_small _ l (Nat.le_refl _) 0 [] ls n E h
  exact ⟨by rw [List.length_nil] at h1; omega, fun x hx => by
   rcases h2 x hx with h3 | h3
   ·cases h3
   ·omega⟩
def parK (L : List Ln) : Res → Nd × Nat × Int
 | .bad no e => (nul, no, e)
 | .ok d k => match L.drop k with
  | y :: _ => (nul, y.no, 3)
  | [] => if okT 2000 d then (d, 0, 0) else (nul, 0, 9)
theorem par_err {l : L8} {ls : List Ln} {no : Nat} {E : Int} (h : fileL l = (ls, no, E)) (hE : E ≠ 0) : parB l = (nul, no, E) := by
 unfold parB
 rw [h]
 exact if_pos hE
theorem par_nil {l : L8} {no : Nat} (h : fileL l = ([], no, 0)) : parB l = (nul, 0, 0) := by
 unfold parB
 rw [h]
 rfl
theorem par_cons {l : L8} {x : Ln} {ls : List Ln} {no : Nat} (h : fileL l = (x :: ls, no, 0)) : parB l = parK (x :: ls) (blkB (x :: ls)) := by
 unfold parB
 rw [h]
 show (if (0 : Int) ≠ 0 then _ else _) = _
 rw [if_neg (by decide)]
 show (match blkB (x :: ls) with | .bad no e => _ | .ok d k => _) = _
 cases blkB (x :: ls) <;> rfl
theorem parK_low {L : List Ln} {d : Nd} {k : Nat} (h : k < L.length) : parK L (.ok d k) = (nul, (L[k]'h).no, 3) := by
 unfold parK
 show (match L.drop k with | y :: _ => _ | [] => _) = _
 rw [List.drop_eq_getElem_cons h]
theorem parK_end {L : List Ln} {d : Nd} {k : Nat} (h : L.length ≤ k) : parK L (.ok d k) = if okT 2000 d then (d, 0, 0) else (nul, 0, 9) := by
 unfold parK
 show (match L.drop k with | y :: _ => _ | [] => _) = _
 rw [List.drop_of_length_le h]
end B10
end Go.Proofs.YtmdgpejedbkkdaaGreatDoor
