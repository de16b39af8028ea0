/- QuoMath, QuoScan -/
import Derived.Lib.Bytealg
import Derived.Lib.Hide
import Derived.Lib.IndexMore
import Derived.Lib.Replace
set_option linter.unusedVariables false
set_option linter.unusedSimpArgs false
set_option maxRecDepth 100000
set_option maxHeartbeats 16000000
namespace Go.Proofs.YtmdgpejedbkkdaaGreatDoor
namespace Q6
def good (c : UInt8) : Bool := decide (32 ≤ c.toNat) && decide (c.toNat ≠ 127)
def isC (k : UInt8) (c : UInt8) : Bool := decide (c = k)
def has (l : List UInt8) (c : UInt8) : Bool := decide (c ∈ l)
def marks : List UInt8 := [44, 91, 93, 123, 125]
def firsts : List UInt8 := [44, 91, 93, 123, 125, 63, 58, 35, 38, 42, 33, 124, 62, 39, 34, 37, 64, 96]
theorem index_has (l : List UInt8) (c : UInt8) : decide ((0 : Int) ≤ Lib.indexByte l c) = has l c := by
 unfold has
 rw [decide_eq_decide]
 induction l with
 | nil => simp [Lib.indexByte]
 | cons b l ih =>
  have hge := Lib.indexByte_ge l c
  unfold Lib.indexByte
  by_cases h : b = c
  ·subst h; simp
  ·have hb : (b == c) = false := beq_eq_false_iff_ne.2 h
   rw [hb]
   simp only [Bool.false_eq_true, if_false, List.mem_cons]
   by_cases hm : Lib.indexByte l c = -1
   ·rw [hm]
    rw [hm] at ih
    simp only [beq_self_eq_true, if_true]
    constructor
    ·intro h0; omega
    ·rintro (h0 | h0)
     ·exact absurd h0.symm h
     ·exact ih.2 h0
   ·have hm' : (Lib.indexByte l c == -1) = false := beq_eq_false_iff_ne.2 hm
    rw [hm']
    simp only [Bool.false_eq_true, if_false]
    constructor
    ·intro _; exact .inr (ih.1 (by omega))
    ·intro _; omega
def bef (l : List UInt8) (i : Nat) : UInt8 := if i = 0 then 10 else l.getD (i - 1) 0
def aft (l : List UInt8) (i : Nat) : UInt8 := if i + 1 < l.length then l.getD (i + 1) 0 else 10
def okI (F : UInt8 → UInt8 → UInt8 → Bool) (l : List UInt8) (i : Nat) : Bool := F (bef l i) (l.getD i 0) (aft l i)
def everyB (F : UInt8 → UInt8 → UInt8 → Bool) (l : List UInt8) : Bool := (List.range l.length).all (okI F l)
theorem every_iff {F : UInt8 → UInt8 → UInt8 → Bool} {l : List UInt8} : everyB F l = true ↔ ∀ i, i < l.length → okI F l i = true := by
 unfold everyB
 rw [List.all_eq_true]
 constructor
 ·intro h i hi; exact h i (List.mem_range.2 hi)
 ·intro h i hi; exact h i (List.mem_range.1 hi)
theorem every_yes {F : UInt8 → UInt8 → UInt8 → Bool} {l : List UInt8} (h : ∀ i, i < l.length → okI F l i = true) : everyB F l = true := every_iff.2 h
theorem every_no {F : UInt8 → UInt8 → UInt8 → Bool} {l : List UInt8} {i : Nat} (hi : i < l.length) (h : okI F l i = false) : everyB F l = false := by
 rw [Bool.eq_false_iff]
 intro e
 have := every_iff.1 e i hi
 rw [h] at this; cases this
def loose (a : UInt8) : Bool := isC 10 a || isC 32 a
def plainF (b c a : UInt8) : Bool :=
 if isC 10 b && has firsts c then false
 else if isC 32 c then !isC 10 b && !isC 10 a
 else if isC 45 c then !isC 10 b || !loose a
 else if isC 58 c then !loose a
 else if isC 35 c then !isC 32 b
 else good c
def bad3 (l : List UInt8) : Bool := decide (l = []) || decide (l = [126]) || decide (l = [110, 117, 108, 108])
def plainB (l : List UInt8) : Bool := if bad3 l then false else everyB plainF l
def rowF (b c a : UInt8) : Bool := !has marks c
def goodF (b c a : UInt8) : Bool := good c
def rowB (l : List UInt8) : Bool := plainB l && everyB rowF l
def refI (l : List UInt8) (i : Nat) : Bool :=
 good (l.getD i 0) && !(isC 58 (l.getD i 0) && (decide (i + 1 = l.length) || isC 32 (l.getD (i + 1) 0))) && !(isC 35 (l.getD i 0) && decide (0 < i) && isC 32 (l.getD (i - 1) 0))
def refH (l : List UInt8) : Bool :=
 !isC 32 (l.getD 0 0) && !isC 32 (l.getD (l.length - 1) 0) && !has firsts (l.getD 0 0) && !(isC 45 (l.getD 0 0) && (decide (l.length = 1) || isC 32 (l.getD 1 0)))
theorem good_not10 {c : UInt8} (h : good c = true) : c ≠ 10 := by rintro rfl; revert h; decide
theorem plainF_good {b c a : UInt8} (h : plainF b c a = true) : good c = true := by
 unfold plainF at h
 by_cases h1 : (isC 10 b && has firsts c) = true
 ·rw [if_pos h1] at h; cases h
 rw [if_neg h1] at h
 by_cases h2 : isC 32 c = true
 ·have : c = 32 := by simpa [isC] using h2
  subst this; decide
 rw [if_neg h2] at h
 by_cases h3 : isC 45 c = true
 ·have : c = 45 := by simpa [isC] using h3
  subst this; decide
 rw [if_neg h3] at h
 by_cases h4 : isC 58 c = true
 ·have : c = 58 := by simpa [isC] using h4
  subst this; decide
 rw [if_neg h4] at h
 by_cases h5 : isC 35 c = true
 ·have : c = 35 := by simpa [isC] using h5
  subst this; decide
 rw [if_neg h5] at h
 exact h
theorem isC_iff {k c : UInt8} : isC k c = true ↔ c = k := by simp [isC]
theorem plain_to {l : List UInt8} (h0 : l ≠ []) (h : ∀ i, i < l.length → okI plainF l i = true) : refH l = true ∧ ∀ i, i < l.length → refI l i = true := by
 have hpos : 0 < l.length := List.length_pos_iff.2 h0
 constructor
 ·have hf := h 0 hpos
  have hl := h (l.length - 1) (by omega)
  have hb0 : bef l 0 = 10 := by simp [bef]
  have hal : aft l (l.length - 1) = 10 := by unfold aft; rw [if_neg (by omega)]
  unfold okI at hf hl
  rw [hb0] at hf
  rw [hal] at hl
  have ha0 : aft l 0 = if l.length = 1 then 10 else l.getD 1 0 := by
   unfold aft
   by_cases e : l.length = 1
   ·rw [if_pos e, if_neg (by omega)]
   ·rw [if_neg e, if_pos (by omega)]
  unfold refH
  generalize l.getD 0 0 = c at hf ⊢
  generalize l.getD (l.length - 1) 0 = d at hl ⊢
  have n1 : has firsts c = false := by
   rw [Bool.eq_false_iff]; intro e
   simp [plainF, isC, e] at hf
  have n2 : isC 32 c = false := by
   rw [Bool.eq_false_iff]; intro e
   simp [plainF, n1, e] at hf
   exact absurd hf.1 (by decide)
  have n3 : isC 32 d = false := by
   rw [Bool.eq_false_iff]; intro e
   have : d = 32 := isC_iff.1 e
   subst this
   simp [plainF, isC, has, firsts] at hl
  have n4 : (isC 45 c && (decide (l.length = 1) || isC 32 (l.getD 1 0))) = false := by
   rw [Bool.eq_false_iff]; intro e
   rw [Bool.and_eq_true, Bool.or_eq_true] at e
   have hc : c = 45 := isC_iff.1 e.1
   subst hc
   rw [ha0] at hf
   rcases e.2 with e2 | e2
   ·rw [if_pos (of_decide_eq_true e2)] at hf
    revert hf; decide
   ·by_cases e3 : l.length = 1
    ·rw [if_pos e3] at hf
     revert hf; decide
    ·rw [if_neg e3, isC_iff.1 e2] at hf
     revert hf; decide
  rw [n1, n2, n3, n4]; rfl
 ·intro i hi
  have hf := h i hi
  have hg := plainF_good hf
  unfold okI at hf
  unfold refI
  rw [hg]
  have n1 : (isC 58 (l.getD i 0) && (decide (i + 1 = l.length) || isC 32 (l.getD (i + 1) 0))) = false := by
   rw [Bool.eq_false_iff]; intro e
   rw [Bool.and_eq_true, Bool.or_eq_true] at e
   rw [isC_iff.1 e.1] at hf
   rcases e.2 with e2 | e2
   ·have ha : aft l i = 10 := by unfold aft; rw [if_neg (by have := of_decide_eq_true e2; omega)]
    rw [ha] at hf
    unfold plainF at hf
    simp [loose, isC, has, firsts] at hf
   ·by_cases e3 : i + 1 < l.length
    ·have ha : aft l i = 32 := by unfold aft; rw [if_pos e3, isC_iff.1 e2]
     rw [ha] at hf
     unfold plainF at hf
     simp [loose, isC, has, firsts] at hf
    ·have ha : aft l i = 10 := by unfold aft; rw [if_neg e3]
     rw [ha] at hf
     unfold plainF at hf
     simp [loose, isC, has, firsts] at hf
  have n2 : (isC 35 (l.getD i 0) && decide (0 < i) && isC 32 (l.getD (i - 1) 0)) = false := by
   rw [Bool.eq_false_iff]; intro e
   rw [Bool.and_eq_true, Bool.and_eq_true] at e
   have hb : bef l i = 32 := by unfold bef; rw [if_neg (by have := of_decide_eq_true e.1.2; omega), isC_iff.1 e.2]
   rw [isC_iff.1 e.1.1, hb] at hf
   unfold plainF at hf
   simp [isC, has, firsts] at hf
  rw [n1, n2]; rfl
end Q6
end Go.Proofs.YtmdgpejedbkkdaaGreatDoor
namespace Go.Proofs.YtmdgpejedbkkdaaGreatDoor
namespace Q6
def dg (n : Nat) : UInt8 := if n < 10 then UInt8.ofNat (48 + n) else UInt8.ofNat (87 + n)
def hexV (c : UInt8) : Nat :=
 if 48 ≤ c.toNat ∧ c.toNat ≤ 57 then c.toNat - 48 else if 97 ≤ c.toNat ∧ c.toNat ≤ 102 then c.toNat - 87 else if 65 ≤ c.toNat ∧ c.toNat ≤ 70 then c.toNat - 55 else 16
def esc (c : UInt8) : List UInt8 :=
 if c = 34 ∨ c = 92 then [92, c] else if c = 10 then [92, 110] else if c = 9 then [92, 116] else if good c = true then [c] else [92, 120, dg (c.toNat / 16), dg (c.toNat % 16)]
def escL (l : List UInt8) : List UInt8 := (l.map esc).flatten
def dblL (l : List UInt8) : List UInt8 := 34 :: escL l ++ [34]
def sq (c : UInt8) : List UInt8 := if c = 39 then [39, 39] else [c]
def sqL (l : List UInt8) : List UInt8 := (l.map sq).flatten
def sglL (l : List UInt8) : List UInt8 := 39 :: sqL l ++ [39]
def goodL (l : List UInt8) : Bool := l.all good
def denX : List UInt8 → UInt8 × Nat
 | a :: b :: _ => if hexV a < 16 ∧ hexV b < 16 then (UInt8.ofNat (16 * hexV a + hexV b), 4) else (0, 0)
 | _ => (0, 0)
def denB : List UInt8 → UInt8 × Nat
 | [] => (0, 0)
 | d :: u => if d = 92 ∨ d = 34 then (d, 2) else if d = 110 then (10, 2) else if d = 116 then (9, 2) else if d = 120 then denX u else (0, 0)
def den : List UInt8 → UInt8 × Nat
 | [] => (0, 0)
 | c :: t => if c = 92 then denB t else if good c = true then (c, 1) else (0, 0)
theorem denX_two (a b : UInt8) (u : List UInt8) : denX (a :: b :: u) = if hexV a < 16 ∧ hexV b < 16 then (UInt8.ofNat (16 * hexV a + hexV b), 4) else (0, 0) := rfl
theorem denB_cons (d : UInt8) (u : List UInt8) : denB (d :: u) = if d = 92 ∨ d = 34 then (d, 2) else if d = 110 then (10, 2) else if d = 116 then (9, 2) else if d = 120 then denX u else (0, 0) := rfl
theorem den_cons (c : UInt8) (t : List UInt8) : den (c :: t) = if c = 92 then denB t else if good c = true then (c, 1) else (0, 0) := rfl
theorem denX_len (l : List UInt8) : (denX l).2 ≤ l.length + 2 := by
 match l with
 | [] => exact Nat.zero_le _
 | [a] => exact Nat.zero_le _
 | a :: b :: u =>
  rw [denX_two]
  split
  ·show 4 ≤ u.length + 1 + 1 + 2; omega
  ·exact Nat.zero_le _
theorem denB_len (l : List UInt8) : (denB l).2 ≤ l.length + 1 := by
 match l with
 | [] => exact Nat.zero_le _
 | d :: u =>
  rw [denB_cons, List.length_cons]
  have := denX_len u
  split
  ·show 2 ≤ _; omega
  ·split
   ·show 2 ≤ _; omega
   ·split
    ·show 2 ≤ _; omega
    ·split
     ·omega
     ·exact Nat.zero_le _
theorem den_len (l : List UInt8) : (den l).2 ≤ l.length := by
 match l with
 | [] => exact Nat.le_refl _
 | c :: t =>
  rw [den_cons, List.length_cons]
  have := denB_len t
  split
  ·omega
  ·split
   ·show 1 ≤ _; omega
   ·exact Nat.zero_le _
def scD (l : List UInt8) : Option (List UInt8 × Nat) :=
 match l with
 | [] => none
 | c :: t =>
  if c = 34 then some ([], 1)
  else if h : (den (c :: t)).2 = 0 then none
  else (scD ((c :: t).drop (den (c :: t)).2)).map fun p => ((den (c :: t)).1 :: p.1, (den (c :: t)).2 + p.2)
 termination_by l.length
 decreasing_by
  rw [List.length_drop]
  have : 0 < (c :: t).length := Nat.succ_pos _
  omega
theorem scD_nil : scD [] = none := by rw [scD]
theorem scD_end (t : List UInt8) : scD (34 :: t) = some ([], 1) := by rw [scD, if_pos rfl]
theorem scD_bad {c : UInt8} {t : List UInt8} (hc : c ≠ 34) (h : (den (c :: t)).2 = 0) : scD (c :: t) = none := by rw [scD, if_neg hc, dif_pos h]
theorem scD_next {c : UInt8} {t : List UInt8} {v : UInt8} {m : Nat} (hc : c ≠ 34) (h : den (c :: t) = (v, m)) (hm : m ≠ 0) :
  scD (c :: t) = (scD ((c :: t).drop m)).map fun p => (v :: p.1, m + p.2) := by
 rw [scD, if_neg hc]
 rw [h]
 rw [dif_neg hm]
def push (acc : List UInt8) (k : Nat) (p : List UInt8 × Nat) : List UInt8 × Nat := (acc ++ p.1, k + p.2)
def atD (l acc : List UInt8) (k : Nat) : Option (List UInt8 × Nat) := (scD (l.drop k)).map (push acc k)
theorem drop_cons {l : List UInt8} {k : Nat} (h : k < l.length) : l.drop k = l.getD k 0 :: l.drop (k + 1) := by
 rw [List.drop_eq_getElem_cons h, List.getD_eq_getElem?_getD, List.getElem?_eq_getElem h]; rfl
theorem atD_out {l acc : List UInt8} {k : Nat} (h : l.length ≤ k) : atD l acc k = none := by unfold atD; rw [List.drop_of_length_le h, scD_nil]; rfl
theorem atD_end {l acc : List UInt8} {k : Nat} (h : k < l.length) (hc : l.getD k 0 = 34) : atD l acc k = some (acc, k + 1) := by
 unfold atD; rw [drop_cons h, hc, scD_end]; simp [push]
theorem atD_bad {l acc : List UInt8} {k : Nat} (h : k < l.length) (hc : l.getD k 0 ≠ 34) (hd : (den (l.drop k)).2 = 0) : atD l acc k = none := by
 unfold atD
 rw [drop_cons h] at hd ⊢
 rw [scD_bad hc hd]; rfl
theorem atD_next {l acc : List UInt8} {k m : Nat} {v : UInt8} (h : k < l.length) (hc : l.getD k 0 ≠ 34) (hd : den (l.drop k) = (v, m)) (hm : m ≠ 0) : atD l acc k = atD l (acc ++ [v]) (k + m) := by
 unfold atD
 have hdd : l.drop (k + m) = (l.drop k).drop m := by rw [List.drop_drop]
 rw [hdd]
 rw [drop_cons h] at hd ⊢
 rw [scD_next hc hd hm, Option.map_map]
 congr 1
 funext p
 simp [push, Nat.add_assoc]
def scS : List UInt8 → Option (List UInt8 × Nat)
 | [] => none
 | [c] => if c = 39 then some ([], 1) else none
 | c :: d :: t => if good c = true then (if c = 39 then (if d = 39 then (scS t).map (push [39] 2) else some ([], 1)) else (scS (d :: t)).map (push [c] 1)) else none
def atS (l acc : List UInt8) (k : Nat) : Option (List UInt8 × Nat) := (scS (l.drop k)).map (push acc k)
theorem push_push (acc b : List UInt8) (k m : Nat) (o : Option (List UInt8 × Nat)) : (o.map (push b m)).map (push acc k) = o.map (push (acc ++ b) (k + m)) := by
 rw [Option.map_map]
 congr 1
 funext p
 simp [push, Nat.add_assoc]
theorem atS_out {l acc : List UInt8} {k : Nat} (h : l.length ≤ k) : atS l acc k = none := by unfold atS; rw [List.drop_of_length_le h]; rfl
theorem atS_bad {l acc : List UInt8} {k : Nat} (h : k < l.length) (hg : good (l.getD k 0) = false) : atS l acc k = none := by
 unfold atS
 rw [drop_cons h]
 have hne : l.getD k 0 ≠ 39 := fun e => by rw [e] at hg; revert hg; decide
 generalize l.getD k 0 = c at *
 cases l.drop (k + 1) with
 | nil => unfold scS; rw [if_neg hne]; rfl
 | cons d t => unfold scS; rw [hg]; rfl
theorem atS_next {l acc : List UInt8} {k : Nat} (h : k < l.length) (hg : good (l.getD k 0) = true) (hc : l.getD k 0 ≠ 39) : atS l acc k = atS l (acc ++ [l.getD k 0]) (k + 1) := by
 unfold atS
 rw [drop_cons h]
 generalize l.getD k 0 = c at *
 cases hd : l.drop (k + 1) with
 | nil => unfold scS; rw [if_neg hc]; rfl
 | cons d t =>
  have e : scS (c :: d :: t) = (scS (d :: t)).map (push [c] 1) := by rw [scS, if_pos hg, if_neg hc]
  rw [e, push_push]
theorem atS_two {l acc : List UInt8} {k : Nat} (h : k + 1 < l.length) (hc : l.getD k 0 = 39) (hd : l.getD (k + 1) 0 = 39) : atS l acc k = atS l (acc ++ [39]) (k + 2) := by
 unfold atS
 rw [drop_cons (show k < l.length by omega), drop_cons h, hc, hd]
 have e : scS (39 :: 39 :: l.drop (k + 1 + 1)) = (scS (l.drop (k + 1 + 1))).map (push [39] 2) := by rw [scS, if_pos (by decide), if_pos rfl, if_pos rfl]
 rw [e, push_push]
theorem atS_end {l acc : List UInt8} {k : Nat} (h : k < l.length) (hc : l.getD k 0 = 39) (hd : ¬ (k + 1 < l.length ∧ l.getD (k + 1) 0 = 39)) : atS l acc k = some (acc, k + 1) := by
 unfold atS
 rw [drop_cons h, hc]
 by_cases h1 : k + 1 < l.length
 ·rw [drop_cons h1]
  have hd' : l.getD (k + 1) 0 ≠ 39 := fun e => hd ⟨h1, e⟩
  generalize l.getD (k + 1) 0 = d at *
  have e : scS (39 :: d :: l.drop (k + 1 + 1)) = some ([], 1) := by rw [scS, if_pos (by decide), if_pos rfl, if_neg hd']
  rw [e]; simp [push]
 ·rw [List.drop_of_length_le (by omega)]
  have e : scS [39] = some ([], 1) := by rw [scS, if_pos rfl]
  rw [e]; simp [push]
def outV (r : Option (List UInt8 × Nat)) : List UInt8 := match r with | some p => p.1 | none => []
def outN (r : Option (List UInt8 × Nat)) : Int := match r with | some p => (p.2 : Int) | none => 0
def outE (r : Option (List UInt8 × Nat)) : Int := match r with | some _ => 0 | none => 3
def scanR (l : List UInt8) (k : Nat) : Option (List UInt8 × Nat) := if l.getD k 0 = 34 then atD l [] (k + 1) else atS l [] (k + 1)
def isQuote (l : List UInt8) (i : Int) : Bool := decide (0 ≤ i) && decide (i < l.length) && (decide (l.getD i.toNat 0 = 34) || decide (l.getD i.toNat 0 = 39))
def scanV (l : List UInt8) (i : Int) : List UInt8 := if isQuote l i then outV (scanR l i.toNat) else []
def scanN (l : List UInt8) (i : Int) : Int := if isQuote l i then outN (scanR l i.toNat) else 0
def scanE (l : List UInt8) (i : Int) : Int := if isQuote l i then outE (scanR l i.toNat) else 2
theorem dg_nat (u : Nat) (h : u < 16) : (dg u).toNat = if u < 10 then 48 + u else 87 + u := by
 unfold dg
 split
 ·rw [UInt8.toNat_ofNat']; omega
 ·rw [UInt8.toNat_ofNat']; omega
theorem hex_dg (u : Nat) (h : u < 16) : hexV (dg u) = u := by
 unfold hexV
 rw [dg_nat u h]
 by_cases hu : u < 10
 ·rw [if_pos hu, if_pos (by omega)]; omega
 ·rw [if_neg hu, if_neg (by omega), if_pos (by omega)]; omega
theorem den_esc (c : UInt8) (r : List UInt8) : den (esc c ++ r) = (c, (esc c).length) ∧ (esc c).length ≠ 0 ∧ (esc c).headD 0 ≠ 34 := by
 unfold esc
 by_cases h1 : c = 34 ∨ c = 92
 ·rw [if_pos h1]
  refine ⟨?_, by show (2 : Nat) ≠ 0; decide, by show (92 : UInt8) ≠ 34; decide⟩
  show den (92 :: c :: r) = (c, 2)
  rw [den_cons, if_pos rfl, denB_cons, if_pos h1.symm]
 rw [if_neg h1]
 by_cases h2 : c = 10
 ·subst h2
  rw [if_pos rfl]
  refine ⟨?_, by decide, by show (92 : UInt8) ≠ 34; decide⟩
  show den (92 :: 110 :: r) = (10, 2)
  rw [den_cons, if_pos rfl, denB_cons, if_neg (by decide), if_pos rfl]
 rw [if_neg h2]
 by_cases h3 : c = 9
 ·subst h3
  rw [if_pos rfl]
  refine ⟨?_, by decide, by show (92 : UInt8) ≠ 34; decide⟩
  show den (92 :: 116 :: r) = (9, 2)
  rw [den_cons, if_pos rfl, denB_cons, if_neg (by decide), if_neg (by decide), if_pos rfl]
 rw [if_neg h3]
 by_cases h4 : good c = true
 ·rw [if_pos h4]
  refine ⟨?_, by show (1 : Nat) ≠ 0; decide, fun e => h1 (.inl e)⟩
  show den (c :: r) = (c, 1)
  rw [den_cons, if_neg (fun e => h1 (.inr e)), if_pos h4]
 rw [if_neg h4]
 refine ⟨?_, by show (4 : Nat) ≠ 0; decide, by show (92 : UInt8) ≠ 34; decide⟩
 show den (92 :: 120 :: dg (c.toNat / 16) :: dg (c.toNat % 16) :: r) = (c, 4)
 have hc := c.toNat_lt
 have e1 := hex_dg (c.toNat / 16) (by omega)
 have e2 := hex_dg (c.toNat % 16) (by omega)
 rw [den_cons, if_pos rfl, denB_cons, if_neg (by decide), if_neg (by decide), if_neg (by decide), if_pos rfl, denX_two, e1, e2, if_pos ⟨by omega, by omega⟩]
 congr 1
 apply UInt8.toNat_inj.1
 rw [UInt8.toNat_ofNat']; omega
theorem escL_cons (c : UInt8) (l : List UInt8) : escL (c :: l) = esc c ++ escL l := by unfold escL; rw [List.map_cons, List.flatten_cons]
theorem sqL_cons (c : UInt8) (l : List UInt8) : sqL (c :: l) = sq c ++ sqL l := by unfold sqL; rw [List.map_cons, List.flatten_cons]
theorem scD_esc (l r : List UInt8) : scD (escL l ++ 34 :: r) = some (l, (escL l).length + 1) := by
 induction l with
 | nil => exact scD_end r
 | cons c l ih =>
  rw [escL_cons, List.append_assoc]
  obtain ⟨h1, h2, h3⟩ := den_esc c (escL l ++ 34 :: r)
  generalize esc c = E at *
  cases E with
  | nil => exact absurd rfl h2
  | cons x xs =>
   rw [List.cons_append] at h1 ⊢
   rw [scD_next (show x ≠ 34 from h3) h1 h2]
   have e : (x :: (xs ++ (escL l ++ 34 :: r))).drop (x :: xs).length = escL l ++ 34 :: r := by
    rw [← List.cons_append]; exact List.drop_left
   rw [e, ih]
   simp [Nat.add_assoc] <;> omega
theorem replaceK_sq (l : List UInt8) : Lib.replaceK [39] [39, 39] (Lib.count l [39]) l = sqL l := by
 induction l with
 | nil => rw [Lib.count_one]; rfl
 | cons c l ih =>
  rw [sqL_cons]
  unfold sq
  by_cases h : c = 39
  ·subst h
   rw [if_pos rfl, Lib.count_cons_eq, Nat.add_comm, Lib.replaceK_hit _ _ _ _ 0 (by rw [Lib.index]; simp [List.isPrefixOf])]
   simp only [List.take_zero, List.nil_append, Nat.zero_add, List.length_cons, List.length_nil, List.drop_succ_cons, List.drop_zero]
   rw [ih]
  ·rw [if_neg h, Lib.count_cons_ne c 39 l h]
   have hp : ([39] : List UInt8).isPrefixOf (c :: l) = false := by simp [List.isPrefixOf, Ne.symm h]
   have hix : Lib.index (c :: l) [39] = if Lib.index l [39] == -1 then -1 else Lib.index l [39] + 1 := by rw [Lib.index, hp]; simp
   cases hk : Lib.count l [39] with
   | zero =>
    rw [hk] at ih
    rw [← ih]; rfl
   | succ k =>
    obtain ⟨i, hi⟩ := Lib.index_of_count (s := l) (old := [39]) (by omega)
    rw [hi] at hix
    have : ((i : Int) == -1) = false := beq_eq_false_iff_ne.2 (by omega)
    rw [this] at hix
    simp only [Bool.false_eq_true, if_false] at hix
    rw [hk, Lib.replaceK_hit _ _ _ _ i hi] at ih
    rw [Lib.replaceK_hit _ _ _ _ (i + 1) (by rw [hix]; omega), ← ih]
    simp [List.take_succ_cons]
theorem replace_sq (l : List UInt8) : Lib.replaceAll l [39] [39, 39] = sqL l := by
 have h : (([39] : List UInt8) == [39, 39]) = false := by decide
 unfold Lib.replaceAll Lib.replace Lib.replaceNum
 rw [h, if_neg Bool.false_ne_true, if_pos (.inl (by decide))]
 exact replaceK_sq l
end Q6
end Go.Proofs.YtmdgpejedbkkdaaGreatDoor
