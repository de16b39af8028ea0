/- QuoScan -/
import Derived.Test.YtgdejjkiiaodkaaGreatDoorPT2
set_option linter.unusedVariables false
set_option linter.unusedSimpArgs false
set_option maxRecDepth 100000
set_option maxHeartbeats 16000000
namespace Go.Proofs.YtgdejjkiiaodkaaGreatDoor
namespace Q6
def hexV (c : UInt8) : Nat :=
 if 48 ≤ c.toNat ∧ c.toNat ≤ 57 then c.toNat - 48 else if 97 ≤ c.toNat ∧ c.toNat ≤ 102 then c.toNat - 87 else if 65 ≤ c.toNat ∧ c.toNat ≤ 70 then c.toNat - 55 else 16
def sq (c : UInt8) : List UInt8 := if c = 39 then [39, 39] else [c]
def sqL (l : List UInt8) : List UInt8 := (l.map sq).flatten
def sglL (l : List UInt8) : List UInt8 := 39 :: sqL l ++ [39]
def goodL (l : List UInt8) : Bool := l.all good
def denX : List UInt8 → UInt8 × Nat
 | a :: b :: _ => if hexV a < 16 ∧ hexV b < 16 then (UInt8.ofNat (16 * hexV a + hexV b), 4) else (0, 0)
 | _ => (0, 0)
def denB : List UInt8 → UInt8 × Nat
 | [] => (0, 0)
 | d :: u => if d = 92 ∨ d = 34 then (d, 2) else if d = 110 then (10, 2) else if d = 116 then (9, 2) else if d = 120 then denX u else (0, 0)
def den : List UInt8 → UInt8 × Nat
 | [] => (0, 0)
 | c :: t => if c = 92 then denB t else if good c = true then (c, 1) else (0, 0)
theorem denX_two (a b : UInt8) (u : List UInt8) : denX (a :: b :: u) = if hexV a < 16 ∧ hexV b < 16 then (UInt8.ofNat (16 * hexV a + hexV b), 4) else (0, 0) := rfl
theorem denB_cons (d : UInt8) (u : List UInt8) : denB (d :: u) = if d = 92 ∨ d = 34 then (d, 2) else if d = 110 then (10, 2) else if d = 116 then (9, 2) else if d = 120 then denX u else (0, 0) := rfl
theorem den_cons (c : UInt8) (t : List UInt8) : den (c :: t) = if c = 92 then denB t else if good c = true then (c, 1) else (0, 0) := rfl
theorem denX_len (l : List UInt8) : (denX l).2 ≤ l.length + 2 := by
 match l with
 | [] => exact Nat.zero_le _
 | [a] => exact Nat.zero_le _
 | a :: b :: u =>
  rw [denX_two]
  split
  ·show 4 ≤ u.length + 1 + 1 + 2; omega
  ·exact Nat.zero_le _
theorem denB_len (l : List UInt8) : (denB l).2 ≤ l.length + 1 := by
 match l with
 | [] => exact Nat.zero_le _
 | d :: u =>
  rw [denB_cons, List.length_cons]
  have := denX_len u
  split
  ·show 2 ≤ _; omega
  ·split
   ·show 2 ≤ _; omega
   ·split
    ·show 2 ≤ _; omega
    ·split
     ·omega
     ·exact Nat.zero_le _
theorem den_len (l : List UInt8) : (den l).2 ≤ l.length := by
 match l with
 | [] => exact Nat.le_refl _
 | c :: t =>
  rw [den_cons, List.length_cons]
  have := denB_len t
  split
  ·omega
  ·split
   ·show 1 ≤ _; omega
   ·exact Nat.zero_le _
def scD (l : List UInt8) : Option (List UInt8 × Nat) :=
 match l with
 | [] => none
 | c :: t =>
  if c = 34 then some ([], 1)
  else if h : (den (c :: t)).2 = 0 then none
  else (scD ((c :: t).drop (den (c :: t)).2)).map fun p => ((den (c :: t)).1 :: p.1, (den (c :: t)).2 + p.2)
 termination_by l.length
 decreasing_by
  rw [List.length_drop]
  have : 0 < (c :: t).length := Nat.succ_pos _
  omega
theorem scD_nil : scD [] = none := by rw [scD]
theorem scD_end (t : List UInt8) : scD (34 :: t) = some ([], 1) := by rw [scD, if_pos rfl]
theorem scD_bad {c : UInt8} {t : List UInt8} (hc : c ≠ 34) (h : (den (c :: t)).2 = 0) : scD (c :: t) = none := by rw [scD, if_neg hc, dif_pos h]
theorem scD_next {c : UInt8} {t : List UInt8} {v : UInt8} {m : Nat} (hc : c ≠ 34) (h : den (c :: t) = (v, m)) (hm : m ≠ 0) :
  scD (c :: t) = (scD ((c :: t).drop m)).map fun p => (v :: p.1, m + p.2) := by
 rw [scD, if_neg hc]
 rw [h]
 rw [dif_neg hm]
def push (acc : List UInt8) (k : Nat) (p : List UInt8 × Nat) : List UInt8 × Nat := (acc ++ p.1, k + p.2)
def atD (l acc : List UInt8) (k : Nat) : Option (List UInt8 × Nat) := (scD (l.drop k)).map (push acc k)
theorem drop_cons {l : List UInt8} {k : Nat} (h : k < l.length) : l.drop k = l.getD k 0 :: l.drop (k + 1) := by
 rw [List.drop_eq_getElem_cons h, List.getD_eq_getElem?_getD, List.getElem?_eq_getElem h]; rfl
theorem atD_out {l acc : List UInt8} {k : Nat} (h : l.length ≤ k) : atD l acc k = none := by unfold atD; rw [List.drop_of_length_le h, scD_nil]; rfl
theorem atD_end {l acc : List UInt8} {k : Nat} (h : k < l.length) (hc : l.getD k 0 = 34) : atD l acc k = some (acc, k + 1) := by
 unfold atD; rw [drop_cons h, hc, scD_end]; simp [push]
theorem atD_bad {l acc : List UInt8} {k : Nat} (h : k < l.length) (hc : l.getD k 0 ≠ 34) (hd : (den (l.drop k)).2 = 0) : atD l acc k = none := by
 unfold atD
 rw [drop_cons h] at hd ⊢
 rw [scD_bad hc hd]; rfl
theorem atD_next {l acc : List UInt8} {k m : Nat} {v : UInt8} (h : k < l.length) (hc : l.getD k 0 ≠ 34) (hd : den (l.drop k) = (v, m)) (hm : m ≠ 0) : atD l acc k = atD l (acc ++ [v]) (k + m) := by
 unfold atD
 have hdd : l.drop (k + m) = (l.drop k).drop m := by rw [List.drop_drop]
 rw [hdd]
 rw [drop_cons h] at hd ⊢
 rw [scD_next hc hd hm, Option.map_map]
 congr 1
 funext p
 simp [push, Nat.add_assoc]
def scS : List UInt8 → Option (List UInt8 × Nat)
 | [] => none
 | [c] => if c = 39 then some ([], 1) else none
 | c :: d :: t => if good c = true then (if c = 39 then (if d = 39 then (scS t).map (push [39] 2) else some ([], 1)) else (scS (d :: t)).map (push [c] 1)) else none
def atS (l acc : List UInt8) (k : Nat) : Option (List UInt8 × Nat) := (scS (l.drop k)).map (push acc k)
theorem push_push (acc b : List UInt8) (k m : Nat) (o : Option (List UInt8 × Nat)) : (o.map (push b m)).map (push acc k) = o.map (push (acc ++ b) (k + m)) := by
 rw [Option.map_map]
 congr 1
 funext p
 simp [push, Nat.add_assoc]
theorem atS_out {l acc : List UInt8} {k : Nat} (h : l.length ≤ k) : atS l acc k = none := by unfold atS; rw [List.drop_of_length_le h]; rfl
theorem atS_bad {l acc : List UInt8} {k : Nat} (h : k < l.length) (hg : good (l.getD k 0) = false) : atS l acc k = none := by
 unfold atS
 rw [drop_cons h]
 have hne : l.getD k 0 ≠ 39 := fun e => by rw [e] at hg; revert hg; decide
 generalize l.getD k 0 = c at *
 cases l.drop (k + 1) with
 | nil => unfold scS; rw [if_neg hne]; rfl
 | cons d t => unfold scS; rw [hg]; rfl
theorem atS_next {l acc : List UInt8} {k : Nat} (h : k < l.length) (hg : good (l.getD k 0) = true) (hc : l.getD k 0 ≠ 39) : atS l acc k = atS l (acc ++ [l.getD k 0]) (k + 1) := by
 unfold atS
 rw [drop_cons h]
 generalize l.getD k 0 = c at *
 cases hd : l.drop (k + 1) with
 | nil => unfold scS; rw [if_neg hc]; rfl
 | cons d t =>
  have e : scS (c :: d :: t) = (scS (d :: t)).map (push [c] 1) := by rw [scS, if_pos hg, if_neg hc]
  rw [e, push_push]
theorem atS_two {l acc : List UInt8} {k : Nat} (h : k + 1 < l.length) (hc : l.getD k 0 = 39) (hd : l.getD (k + 1) 0 = 39) : atS l acc k = atS l (acc ++ [39]) (k + 2) := by
 unfold atS
 rw [drop_cons (show k < l.length by omega), drop_cons h, hc, hd]
 have e : scS (39 :: 39 :: l.drop (k + 1 + 1)) = (scS (l.drop (k + 1 + 1))).map (push [39] 2) := by rw [scS, if_pos (by decide), if_pos rfl, if_pos rfl]
 rw [e, push_push]
theorem atS_end {l acc : List UInt8} {k : Nat} (h : k < l.length) (hc : l.getD k 0 = 39) (hd : ¬ (k + 1 < l.length ∧ l.getD (k + 1) 0 = 39)) : atS l acc k = some (acc, k + 1) := by
 unfold atS
 rw [drop_cons h, hc]
 by_cases h1 : k + 1 < l.length
 ·rw [drop_cons h1]
  have hd' : l.getD (k + 1) 0 ≠ 39 := fun e => hd ⟨h1, e⟩
  generalize l.getD (k + 1) 0 = d at *
  have e : scS (39 :: d :: l.drop (k + 1 + 1)) = some ([], 1) := by rw [scS, if_pos (by decide), if_pos rfl, if_neg hd']
  rw [e]; simp [push]
 ·rw [List.drop_of_length_le (by omega)]
  have e : scS [39] = some ([], 1) := by rw [scS, if_pos rfl]
  rw [e]; simp [push]
def outV (r : Option (List UInt8 × Nat)) : List UInt8 := match r with | some p => p.1 | none => []
def outN (r : Option (List UInt8 × Nat)) : Int := match r with | some p => (p.2 : Int) | none => 0
def outE (r : Option (List UInt8 × Nat)) : Int := match r with | some _ => 0 | none => 3
def outB (r : Option (List UInt8 × Nat)) : Bool := r.isSome
def scanR (l : List UInt8) (k : Nat) : Option (List UInt8 × Nat) := if l.getD k 0 = 34 then atD l [] (k + 1) else atS l [] (k + 1)
def isQuote (l : List UInt8) (i : Int) : Bool := decide (0 ≤ i) && decide (i < l.length) && (decide (l.getD i.toNat 0 = 34) || decide (l.getD i.toNat 0 = 39))
def scanV (l : List UInt8) (i : Int) : List UInt8 := if isQuote l i then outV (scanR l i.toNat) else []
def scanN (l : List UInt8) (i : Int) : Int := if isQuote l i then outN (scanR l i.toNat) else 0
def scanE (l : List UInt8) (i : Int) : Int := if isQuote l i then outE (scanR l i.toNat) else 2
theorem sqL_cons (c : UInt8) (l : List UInt8) : sqL (c :: l) = sq c ++ sqL l := by unfold sqL; rw [List.map_cons, List.flatten_cons]
theorem replaceK_sq (l : List UInt8) : Lib.replaceK [39] [39, 39] (Lib.count l [39]) l = sqL l := by
 induction l with
 | nil => rw [Lib.count_one]; rfl
 | cons c l ih =>
  rw [sqL_cons]
  unfold sq
  by_cases h : c = 39
  ·subst h
   rw [if_pos rfl, Lib.count_cons_eq, Nat.add_comm, Lib.replaceK_hit _ _ _ _ 0 (by rw [Lib.index]; simp [List.isPrefixOf])]
   simp only [List.take_zero, List.nil_append, Nat.zero_add, List.length_cons, List.length_nil, List.drop_succ_cons, List.drop_zero]
   rw [ih]
  ·rw [if_neg h, Lib.count_cons_ne c 39 l h]
   have hp : ([39] : List UInt8).isPrefixOf (c :: l) = false := by simp [List.isPrefixOf, Ne.symm h]
   have hix : Lib.index (c :: l) [39] = if Lib.index l [39] == -1 then -1 else Lib.index l [39] + 1 := by rw [Lib.index, hp]; simp
   cases hk : Lib.count l [39] with
   | zero =>
    rw [hk] at ih
    rw [← ih]; rfl
   | succ k =>
    obtain ⟨i, hi⟩ := Lib.index_of_count (s := l) (old := [39]) (by omega)
    rw [hi] at hix
    have : ((i : Int) == -1) = false := beq_eq_false_iff_ne.2 (by omega)
    rw [this] at hix
    simp only [Bool.false_eq_true, if_false] at hix
    rw [hk, Lib.replaceK_hit _ _ _ _ i hi] at ih
    rw [Lib.replaceK_hit _ _ _ _ (i + 1) (by rw [hix]; omega), ← ih]
    simp [List.take_succ_cons]
theorem replace_sq (l : List UInt8) : Lib.replaceAll l [39] [39, 39] = sqL l := by
 have h : (([39] : List UInt8) == [39, 39]) = false := by decide
 unfold Lib.replaceAll Lib.replace Lib.replaceNum
 rw [h, if_neg Bool.false_ne_true, if_pos (.inl (by decide))]
 exact replaceK_sq l
end Q6
end Go.Proofs.YtgdejjkiiaodkaaGreatDoor
