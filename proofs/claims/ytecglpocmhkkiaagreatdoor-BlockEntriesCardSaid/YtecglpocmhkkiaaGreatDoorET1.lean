/- QuoMath -/
import Derived.Lib.Bytealg
import Derived.Lib.Hide
import Derived.Lib.IndexMore
import Derived.Lib.Replace
set_option linter.unusedVariables false
set_option linter.unusedSimpArgs false
set_option maxRecDepth 100000
set_option maxHeartbeats 16000000
namespace Go.Proofs.YtecglpocmhkkiaaGreatDoor
namespace Q6
def good (c : UInt8) : Bool := decide (32 ≤ c.toNat) && decide (c.toNat ≠ 127)
def isC (k : UInt8) (c : UInt8) : Bool := decide (c = k)
def has (l : List UInt8) (c : UInt8) : Bool := decide (c ∈ l)
def marks : List UInt8 := [44, 91, 93, 123, 125]
def firsts : List UInt8 := [44, 91, 93, 123, 125, 63, 58, 35, 38, 42, 33, 124, 62, 39, 34, 37, 64, 96]
def refFirsts : List UInt8 := [63, 58, 44, 91, 93, 123, 125, 35, 38, 42, 33, 124, 62, 39, 34, 37, 64, 96]
theorem has_ref (c : UInt8) : has refFirsts c = has firsts c := by
 unfold has refFirsts firsts
 rw [decide_eq_decide]
 simp only [List.mem_cons, List.not_mem_nil, or_false]
 constructor
 ·rintro (h | h | h | h | h | h | h | h | h | h | h | h | h | h | h | h | h | h) <;> simp [h]
 ·rintro (h | h | h | h | h | h | h | h | h | h | h | h | h | h | h | h | h | h) <;> simp [h]
theorem index_has (l : List UInt8) (c : UInt8) : decide ((0 : Int) ≤ Lib.indexByte l c) = has l c := by
 unfold has
 rw [decide_eq_decide]
 induction l with
 | nil => simp [Lib.indexByte]
 | cons b l ih =>
  have hge := Lib.indexByte_ge l c
  unfold Lib.indexByte
  by_cases h : b = c
  ·subst h; simp
  ·have hb : (b == c) = false := beq_eq_false_iff_ne.2 h
   rw [hb]
   simp only [Bool.false_eq_true, if_false, List.mem_cons]
   by_cases hm : Lib.indexByte l c = -1
   ·rw [hm]
    rw [hm] at ih
    simp only [beq_self_eq_true, if_true]
    constructor
    ·intro h0; omega
    ·rintro (h0 | h0)
     ·exact absurd h0.symm h
     ·exact ih.2 h0
   ·have hm' : (Lib.indexByte l c == -1) = false := beq_eq_false_iff_ne.2 hm
    rw [hm']
    simp only [Bool.false_eq_true, if_false]
    constructor
    ·intro _; exact .inr (ih.1 (by omega))
    ·intro _; omega
def bef (l : List UInt8) (i : Nat) : UInt8 := if i = 0 then 10 else l.getD (i - 1) 0
def aft (l : List UInt8) (i : Nat) : UInt8 := if i + 1 < l.length then l.getD (i + 1) 0 else 10
def okI (F : UInt8 → UInt8 → UInt8 → Bool) (l : List UInt8) (i : Nat) : Bool := F (bef l i) (l.getD i 0) (aft l i)
def everyB (F : UInt8 → UInt8 → UInt8 → Bool) (l : List UInt8) : Bool := (List.range l.length).all (okI F l)
theorem every_iff {F : UInt8 → UInt8 → UInt8 → Bool} {l : List UInt8} : everyB F l = true ↔ ∀ i, i < l.length → okI F l i = true := by
 unfold everyB
 rw [List.all_eq_true]
 constructor
 ·intro h i hi; exact h i (List.mem_range.2 hi)
 ·intro h i hi; exact h i (List.mem_range.1 hi)
theorem every_yes {F : UInt8 → UInt8 → UInt8 → Bool} {l : List UInt8} (h : ∀ i, i < l.length → okI F l i = true) : everyB F l = true := every_iff.2 h
theorem every_no {F : UInt8 → UInt8 → UInt8 → Bool} {l : List UInt8} {i : Nat} (hi : i < l.length) (h : okI F l i = false) : everyB F l = false := by
 rw [Bool.eq_false_iff]
 intro e
 have := every_iff.1 e i hi
 rw [h] at this; cases this
def loose (a : UInt8) : Bool := isC 10 a || isC 32 a
def plainF (b c a : UInt8) : Bool :=
 if isC 10 b && has firsts c then false
 else if isC 32 c then !isC 10 b && !isC 10 a
 else if isC 45 c then !isC 10 b || !loose a
 else if isC 58 c then !loose a
 else if isC 35 c then !isC 32 b
 else good c
def bad3 (l : List UInt8) : Bool := decide (l = []) || decide (l = [126]) || decide (l = [110, 117, 108, 108])
def plainB (l : List UInt8) : Bool := if bad3 l then false else everyB plainF l
def rowF (b c a : UInt8) : Bool := !has marks c
def goodF (b c a : UInt8) : Bool := good c
def rowB (l : List UInt8) : Bool := plainB l && everyB rowF l
def refI (l : List UInt8) (i : Nat) : Bool :=
 good (l.getD i 0) && !(isC 58 (l.getD i 0) && (decide (i + 1 = l.length) || isC 32 (l.getD (i + 1) 0))) && !(isC 35 (l.getD i 0) && decide (0 < i) && isC 32 (l.getD (i - 1) 0))
def refH (l : List UInt8) : Bool :=
 !isC 32 (l.getD 0 0) && !isC 32 (l.getD (l.length - 1) 0) && !has firsts (l.getD 0 0) && !(isC 45 (l.getD 0 0) && (decide (l.length = 1) || isC 32 (l.getD 1 0)))
theorem good_not10 {c : UInt8} (h : good c = true) : c ≠ 10 := by rintro rfl; revert h; decide
theorem plainF_good {b c a : UInt8} (h : plainF b c a = true) : good c = true := by
 unfold plainF at h
 by_cases h1 : (isC 10 b && has firsts c) = true
 ·rw [if_pos h1] at h; cases h
 rw [if_neg h1] at h
 by_cases h2 : isC 32 c = true
 ·have : c = 32 := by simpa [isC] using h2
  subst this; decide
 rw [if_neg h2] at h
 by_cases h3 : isC 45 c = true
 ·have : c = 45 := by simpa [isC] using h3
  subst this; decide
 rw [if_neg h3] at h
 by_cases h4 : isC 58 c = true
 ·have : c = 58 := by simpa [isC] using h4
  subst this; decide
 rw [if_neg h4] at h
 by_cases h5 : isC 35 c = true
 ·have : c = 35 := by simpa [isC] using h5
  subst this; decide
 rw [if_neg h5] at h
 exact h
theorem isC_iff {k c : UInt8} : isC k c = true ↔ c = k := by simp [isC]
theorem plain_to {l : List UInt8} (h0 : l ≠ []) (h : ∀ i, i < l.length → okI plainF l i = true) : refH l = true ∧ ∀ i, i < l.length → refI l i = true := by
 have hpos : 0 < l.length := List.length_pos_iff.2 h0
 constructor
 ·have hf := h 0 hpos
  have hl := h (l.length - 1) (by omega)
  have hb0 : bef l 0 = 10 := by simp [bef]
  have hal : aft l (l.length - 1) = 10 := by unfold aft; rw [if_neg (by omega)]
  unfold okI at hf hl
  rw [hb0] at hf
  rw [hal] at hl
  have ha0 : aft l 0 = if l.length = 1 then 10 else l.getD 1 0 := by
   unfold aft
   by_cases e : l.length = 1
   ·rw [if_pos e, if_neg (by omega)]
   ·rw [if_neg e, if_pos (by omega)]
  unfold refH
  generalize l.getD 0 0 = c at hf ⊢
  generalize l.getD (l.length - 1) 0 = d at hl ⊢
  have n1 : has firsts c = false := by
   rw [Bool.eq_false_iff]; intro e
   simp [plainF, isC, e] at hf
  have n2 : isC 32 c = false := by
   rw [Bool.eq_false_iff]; intro e
   simp [plainF, n1, e] at hf
   exact absurd hf.1 (by decide)
  have n3 : isC 32 d = false := by
   rw [Bool.eq_false_iff]; intro e
   have : d = 32 := isC_iff.1 e
   subst this
   simp [plainF, isC, has, firsts] at hl
  have n4 : (isC 45 c && (decide (l.length = 1) || isC 32 (l.getD 1 0))) = false := by
   rw [Bool.eq_false_iff]; intro e
   rw [Bool.and_eq_true, Bool.or_eq_true] at e
   have hc : c = 45 := isC_iff.1 e.1
   subst hc
   rw [ha0] at hf
   rcases e.2 with e2 | e2
   ·rw [if_pos (of_decide_eq_true e2)] at hf
    revert hf; decide
   ·by_cases e3 : l.length = 1
    ·rw [if_pos e3] at hf
     revert hf; decide
    ·rw [if_neg e3, isC_iff.1 e2] at hf
     revert hf; decide
  rw [n1, n2, n3, n4]; rfl
 ·intro i hi
  have hf := h i hi
  have hg := plainF_good hf
  unfold okI at hf
  unfold refI
  rw [hg]
  have n1 : (isC 58 (l.getD i 0) && (decide (i + 1 = l.length) || isC 32 (l.getD (i + 1) 0))) = false := by
   rw [Bool.eq_false_iff]; intro e
   rw [Bool.and_eq_true, Bool.or_eq_true] at e
   rw [isC_iff.1 e.1] at hf
   rcases e.2 with e2 | e2
   ·have ha : aft l i = 10 := by unfold aft; rw [if_neg (by have := of_decide_eq_true e2; omega)]
    rw [ha] at hf
    unfold plainF at hf
    simp [loose, isC, has, firsts] at hf
   ·by_cases e3 : i + 1 < l.length
    ·have ha : aft l i = 32 := by unfold aft; rw [if_pos e3, isC_iff.1 e2]
     rw [ha] at hf
     unfold plainF at hf
     simp [loose, isC, has, firsts] at hf
    ·have ha : aft l i = 10 := by unfold aft; rw [if_neg e3]
     rw [ha] at hf
     unfold plainF at hf
     simp [loose, isC, has, firsts] at hf
  have n2 : (isC 35 (l.getD i 0) && decide (0 < i) && isC 32 (l.getD (i - 1) 0)) = false := by
   rw [Bool.eq_false_iff]; intro e
   rw [Bool.and_eq_true, Bool.and_eq_true] at e
   have hb : bef l i = 32 := by unfold bef; rw [if_neg (by have := of_decide_eq_true e.1.2; omega), isC_iff.1 e.2]
   rw [isC_iff.1 e.1.1, hb] at hf
   unfold plainF at hf
   simp [isC, has, firsts] at hf
  rw [n1, n2]; rfl
theorem refI_good {l : List UInt8} {i : Nat} (h : refI l i = true) : good (l.getD i 0) = true := by
 unfold refI at h
 rw [Bool.and_eq_true, Bool.and_eq_true] at h
 exact h.1.1
theorem plain_from {l : List UInt8} (hH : refH l = true) (h : ∀ i, i < l.length → refI l i = true) : ∀ i, i < l.length → okI plainF l i = true := by
 intro i hi
 have hg := refI_good (h i hi)
 have hi1 := h i hi
 unfold refI at hi1
 simp only [Bool.and_eq_true, Bool.not_eq_true'] at hi1
 obtain ⟨⟨-, n1⟩, n2⟩ := hi1
 unfold refH at hH
 simp only [Bool.and_eq_true, Bool.not_eq_true'] at hH
 obtain ⟨⟨⟨m1, m2⟩, m3⟩, m4⟩ := hH
 have hb : isC 10 (bef l i) = decide (i = 0) := by
  unfold isC bef
  rw [decide_eq_decide]
  by_cases e : i = 0
  ·simp [e]
  ·rw [if_neg e]
   exact ⟨fun e2 => absurd e2 (good_not10 (refI_good (h (i - 1) (by omega)))), fun e2 => absurd e2 e⟩
 have ha : isC 10 (aft l i) = decide (i + 1 = l.length) := by
  unfold isC aft
  rw [decide_eq_decide]
  by_cases e : i + 1 < l.length
  ·rw [if_pos e]
   exact ⟨fun e2 => absurd e2 (good_not10 (refI_good (h (i + 1) e))), fun e2 => by omega⟩
  ·rw [if_neg e]
   exact ⟨fun _ => by omega, fun _ => rfl⟩
 have ha2 : loose (aft l i) = (decide (i + 1 = l.length) || isC 32 (l.getD (i + 1) 0)) ∨ i + 1 = l.length := by
  by_cases e : i + 1 < l.length
  ·left
   unfold loose
   rw [ha]
   unfold aft
   rw [if_pos e]
  ·right; omega
 unfold okI plainF
 rw [hb, ha]
 by_cases i0 : i = 0
 ·subst i0
  rw [m3, m1]
  simp only [decide_true, Bool.and_false, Bool.false_eq_true, if_false, Bool.not_true, Bool.false_or]
  have hl : isC 45 (l.getD 0 0) = true → loose (aft l 0) = false := by
   intro e
   rw [e] at m4
   simp only [Bool.true_and, Bool.or_eq_false_iff] at m4
   have m5 := of_decide_eq_false m4.1
   rcases ha2 with e2 | e2
   ·rw [e2, m4.2]
    simpa using fun e3 : 1 = l.length => m5 e3.symm
   ·exact absurd e2.symm m5
  have hl2 : isC 58 (l.getD 0 0) = false := by
   rw [Bool.eq_false_iff]; intro e
   rw [isC_iff.1 e] at m3
   exact absurd m3 (by decide)
  have hl3 : isC 35 (l.getD 0 0) = false := by
   rw [Bool.eq_false_iff]; intro e
   rw [isC_iff.1 e] at m3
   exact absurd m3 (by decide)
  rw [hl2, hl3, hg]
  by_cases e45 : isC 45 (l.getD 0 0) = true
  ·rw [e45, hl e45]; rfl
  ·rw [if_neg e45]; rfl
 ·have hd : decide (i = 0) = false := decide_eq_false i0
  rw [hd]
  simp only [Bool.false_and, Bool.false_eq_true, if_false, Bool.not_false, Bool.true_and, Bool.true_or]
  by_cases e32 : isC 32 (l.getD i 0) = true
  ·rw [if_pos e32]
   rw [Bool.not_eq_true', decide_eq_false_iff_not]
   intro e
   have : l.length - 1 = i := by omega
   rw [this, e32] at m2; cases m2
  ·rw [if_neg e32]
   by_cases e45 : isC 45 (l.getD i 0) = true
   ·rw [if_pos e45]
   ·rw [if_neg e45]
    by_cases e58 : isC 58 (l.getD i 0) = true
    ·rw [if_pos e58]
     rw [e58, Bool.true_and] at n1
     rcases ha2 with e2 | e2
     ·rw [e2, n1]; rfl
     ·simp [e2] at n1
    ·rw [if_neg e58]
     by_cases e35 : isC 35 (l.getD i 0) = true
     ·rw [if_pos e35]
      rw [e35, decide_eq_true (by omega : 0 < i)] at n2
      have : bef l i = l.getD (i - 1) 0 := by unfold bef; rw [if_neg i0]
      rw [this]
      simpa using n2
     ·rw [if_neg e35]; exact hg
theorem plain_eq {l : List UInt8} (h : bad3 l = false) (hH : refH l = true) (hI : ∀ i, i < l.length → refI l i = true) : plainB l = true := by
 unfold plainB
 rw [h]
 exact every_yes (plain_from hH hI)
theorem plain_ne {l : List UInt8} (h0 : l ≠ []) (h : refH l = false ∨ ∃ i, i < l.length ∧ refI l i = false) : plainB l = false := by
 rw [Bool.eq_false_iff]
 intro e
 unfold plainB at e
 by_cases hb : bad3 l = true
 ·rw [hb] at e; cases e
 ·rw [if_neg hb] at e
  obtain ⟨h1, h2⟩ := plain_to h0 (every_iff.1 e)
  rcases h with h | ⟨i, hi, h⟩
  ·rw [h1] at h; cases h
  ·rw [h2 i hi] at h; cases h
end Q6
end Go.Proofs.YtecglpocmhkkiaaGreatDoor
