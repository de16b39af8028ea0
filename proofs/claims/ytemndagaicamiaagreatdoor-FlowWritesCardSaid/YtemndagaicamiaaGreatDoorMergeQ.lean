/- Plain and quoted strings as lists of bytes: what may stand plain, how a text is quoted, how a quoted text is scanned; that the scan undoes the quoting. Quoting and scanning, as functions on lists of bytes; that the scan undoes the quoting. The contracts of quote's functions on single bytes, and of the closures that check a byte between its neighbours. The contract of every, at whatever closure that only tells. The contract of Plain's closure: every way of its tests. The contracts of Plain and Row. The contracts of hexDigit, hexEscape, escape and denoted. The contracts of hexEscape, escape and denoted. The contracts of escape and denoted. Slices of bytes of the call's own: what is appended, and their text. The contract of scanDouble. The contract of scanSingle. The contract of appendEscaped. The contract of Double. The contract of Write. The contract of Scan. -/
import Derived.Lib.Hide
import Derived.Lib.Bytealg
import Derived.Lib.Replace
import Derived.Lib.IndexMore
import Derived.Test.YtemndagaicamiaaGreatDoorRows
import Derived.Test.YtemndagaicamiaaGreatDoorShelf
import Derived.WalkKit
import Derived.ProofKit
import Derived.Deep.QuietTactic
import Derived.BigQuiet
import Derived.IntWalk
import Derived.Laws.BytesArg
import Derived.Deep.RegionLaw
import Derived.Lib.OwnBridge
import Derived.Sort.OwnSorted
import Derived.Deep.LoopGhost
import Derived.Laws.AppendOwnNone
import Derived.Maps.AppendAt
import Derived.WalkSpells
import Derived.RegionTactic
import Derived.ChangeAlike
import Derived.OwnWalk
import Derived.Below
namespace Go.Proofs.YtemndagaicamiaaGreatDoor
namespace Q6
set_option linter.unusedVariables false
/-- A printable byte. -/
def good (c : UInt8) : Bool := decide (32 ≤ c.toNat) && decide (c.toNat ≠ 127)
/-- Is c the byte k? -/
def isC (k : UInt8) (c : UInt8) : Bool := decide (c = k)
/-- Is c one of l? -/
def has (l : List UInt8) (c : UInt8) : Bool := decide (c ∈ l)
def marks : List UInt8 := [44, 91, 93, 123, 125]
def firsts : List UInt8 := [44, 91, 93, 123, 125, 63, 58, 35, 38, 42, 33, 124, 62, 39, 34, 37, 64, 96]
def refFirsts : List UInt8 := [63, 58, 44, 91, 93, 123, 125, 35, 38, 42, 33, 124, 62, 39, 34, 37, 64, 96]
theorem has_ref (c : UInt8) : has refFirsts c = has firsts c := by
  unfold has refFirsts firsts
  rw [decide_eq_decide]
  simp only [List.mem_cons, List.not_mem_nil, or_false]
  constructor
  · rintro (h | h | h | h | h | h | h | h | h | h | h | h | h | h | h | h | h | h) <;> simp [h]
  · rintro (h | h | h | h | h | h | h | h | h | h | h | h | h | h | h | h | h | h) <;> simp [h]
theorem index_has (l : List UInt8) (c : UInt8) : decide ((0 : Int) ≤ Lib.indexByte l c) = has l c := by
  unfold has
  rw [decide_eq_decide]
  induction l with
  | nil => simp [Lib.indexByte]
  | cons b l ih =>
    have hge := Lib.indexByte_ge l c
    unfold Lib.indexByte
    by_cases h : b = c
    · subst h; simp
    · have hb : (b == c) = false := beq_eq_false_iff_ne.2 h
      rw [hb]
      simp only [Bool.false_eq_true, if_false, List.mem_cons]
      by_cases hm : Lib.indexByte l c = -1
      · rw [hm]
        rw [hm] at ih
        simp only [beq_self_eq_true, if_true]
        constructor
        · intro h0; omega
        · rintro (h0 | h0)
          · exact absurd h0.symm h
          · exact ih.2 h0
      · have hm' : (Lib.indexByte l c == -1) = false := beq_eq_false_iff_ne.2 hm
        rw [hm']
        simp only [Bool.false_eq_true, if_false]
        constructor
        · intro _; exact .inr (ih.1 (by omega))
        · intro _; omega
/-- The neighbours of the byte at i; the byte 10 stands for none. -/
def bef (l : List UInt8) (i : Nat) : UInt8 := if i = 0 then 10 else l.getD (i - 1) 0
def aft (l : List UInt8) (i : Nat) : UInt8 := if i + 1 < l.length then l.getD (i + 1) 0 else 10
def okI (F : UInt8 → UInt8 → UInt8 → Bool) (l : List UInt8) (i : Nat) : Bool := F (bef l i) (l.getD i 0) (aft l i)
def everyB (F : UInt8 → UInt8 → UInt8 → Bool) (l : List UInt8) : Bool := (List.range l.length).all (okI F l)
theorem every_iff {F : UInt8 → UInt8 → UInt8 → Bool} {l : List UInt8} : everyB F l = true ↔ ∀ i, i < l.length → okI F l i = true := by
  unfold everyB
  rw [List.all_eq_true]
  constructor
  · intro h i hi; exact h i (List.mem_range.2 hi)
  · intro h i hi; exact h i (List.mem_range.1 hi)
theorem every_yes {F : UInt8 → UInt8 → UInt8 → Bool} {l : List UInt8} (h : ∀ i, i < l.length → okI F l i = true) : everyB F l = true := every_iff.2 h
theorem every_no {F : UInt8 → UInt8 → UInt8 → Bool} {l : List UInt8} {i : Nat} (hi : i < l.length) (h : okI F l i = false) : everyB F l = false := by
  rw [Bool.eq_false_iff]
  intro e
  have := every_iff.1 e i hi
  rw [h] at this; cases this
def loose (a : UInt8) : Bool := isC 10 a || isC 32 a
def plainF (b c a : UInt8) : Bool :=
  if isC 10 b && has firsts c then false
  else if isC 32 c then !isC 10 b && !isC 10 a
  else if isC 45 c then !isC 10 b || !loose a
  else if isC 58 c then !loose a
  else if isC 35 c then !isC 32 b
  else good c
def bad3 (l : List UInt8) : Bool := decide (l = []) || decide (l = [126]) || decide (l = [110, 117, 108, 108])
def plainB (l : List UInt8) : Bool := if bad3 l then false else everyB plainF l
def rowF (b c a : UInt8) : Bool := !has marks c
def goodF (b c a : UInt8) : Bool := good c
def rowB (l : List UInt8) : Bool := plainB l && everyB rowF l
/-- The document's own loop at i. -/
def refI (l : List UInt8) (i : Nat) : Bool :=
  good (l.getD i 0) && !(isC 58 (l.getD i 0) && (decide (i + 1 = l.length) || isC 32 (l.getD (i + 1) 0))) && !(isC 35 (l.getD i 0) && decide (0 < i) && isC 32 (l.getD (i - 1) 0))
/-- The document's own tests ahead of it. -/
def refH (l : List UInt8) : Bool :=
  !isC 32 (l.getD 0 0) && !isC 32 (l.getD (l.length - 1) 0) && !has firsts (l.getD 0 0) && !(isC 45 (l.getD 0 0) && (decide (l.length = 1) || isC 32 (l.getD 1 0)))
theorem good_not10 {c : UInt8} (h : good c = true) : c ≠ 10 := by rintro rfl; revert h; decide
theorem plainF_good {b c a : UInt8} (h : plainF b c a = true) : good c = true := by
  unfold plainF at h
  by_cases h1 : (isC 10 b && has firsts c) = true
  · rw [if_pos h1] at h; cases h
  rw [if_neg h1] at h
  by_cases h2 : isC 32 c = true
  · have : c = 32 := by simpa [isC] using h2
    subst this; decide
  rw [if_neg h2] at h
  by_cases h3 : isC 45 c = true
  · have : c = 45 := by simpa [isC] using h3
    subst this; decide
  rw [if_neg h3] at h
  by_cases h4 : isC 58 c = true
  · have : c = 58 := by simpa [isC] using h4
    subst this; decide
  rw [if_neg h4] at h
  by_cases h5 : isC 35 c = true
  · have : c = 35 := by simpa [isC] using h5
    subst this; decide
  rw [if_neg h5] at h
  exact h
theorem isC_iff {k c : UInt8} : isC k c = true ↔ c = k := by simp [isC]
theorem plain_to {l : List UInt8} (h0 : l ≠ []) (h : ∀ i, i < l.length → okI plainF l i = true) : refH l = true ∧ ∀ i, i < l.length → refI l i = true := by
  have hpos : 0 < l.length := List.length_pos_iff.2 h0
  constructor
  · have hf := h 0 hpos
    have hl := h (l.length - 1) (by omega)
    have hb0 : bef l 0 = 10 := by simp [bef]
    have hal : aft l (l.length - 1) = 10 := by unfold aft; rw [if_neg (by omega)]
    unfold okI at hf hl
    rw [hb0] at hf
    rw [hal] at hl
    have ha0 : aft l 0 = if l.length = 1 then 10 else l.getD 1 0 := by
      unfold aft
      by_cases e : l.length = 1
      · rw [if_pos e, if_neg (by omega)]
      · rw [if_neg e, if_pos (by omega)]
    unfold refH
    generalize l.getD 0 0 = c at hf ⊢
    generalize l.getD (l.length - 1) 0 = d at hl ⊢
    have n1 : has firsts c = false := by
      rw [Bool.eq_false_iff]; intro e
      simp [plainF, isC, e] at hf
    have n2 : isC 32 c = false := by
      rw [Bool.eq_false_iff]; intro e
      simp [plainF, n1, e] at hf
      exact absurd hf.1 (by decide)
    have n3 : isC 32 d = false := by
      rw [Bool.eq_false_iff]; intro e
      have : d = 32 := isC_iff.1 e
      subst this
      simp [plainF, isC, has, firsts] at hl
    have n4 : (isC 45 c && (decide (l.length = 1) || isC 32 (l.getD 1 0))) = false := by
      rw [Bool.eq_false_iff]; intro e
      rw [Bool.and_eq_true, Bool.or_eq_true] at e
      have hc : c = 45 := isC_iff.1 e.1
      subst hc
      rw [ha0] at hf
      rcases e.2 with e2 | e2
      · rw [if_pos (of_decide_eq_true e2)] at hf
        revert hf; decide
      · by_cases e3 : l.length = 1
        · rw [if_pos e3] at hf
          revert hf; decide
        · rw [if_neg e3, isC_iff.1 e2] at hf
          revert hf; decide
    rw [n1, n2, n3, n4]; rfl
  · intro i hi
    have hf := h i hi
    have hg := plainF_good hf
    unfold okI at hf
    unfold refI
    rw [hg]
    have n1 : (isC 58 (l.getD i 0) && (decide (i + 1 = l.length) || isC 32 (l.getD (i + 1) 0))) = false := by
      rw [Bool.eq_false_iff]; intro e
      rw [Bool.and_eq_true, Bool.or_eq_true] at e
      rw [isC_iff.1 e.1] at hf
      rcases e.2 with e2 | e2
      · have ha : aft l i = 10 := by unfold aft; rw [if_neg (by have := of_decide_eq_true e2; omega)]
        rw [ha] at hf
        unfold plainF at hf
        simp [loose, isC, has, firsts] at hf
      · by_cases e3 : i + 1 < l.length
        · have ha : aft l i = 32 := by unfold aft; rw [if_pos e3, isC_iff.1 e2]
          rw [ha] at hf
          unfold plainF at hf
          simp [loose, isC, has, firsts] at hf
        · have ha : aft l i = 10 := by unfold aft; rw [if_neg e3]
          rw [ha] at hf
          unfold plainF at hf
          simp [loose, isC, has, firsts] at hf
    have n2 : (isC 35 (l.getD i 0) && decide (0 < i) && isC 32 (l.getD (i - 1) 0)) = false := by
      rw [Bool.eq_false_iff]; intro e
      rw [Bool.and_eq_true, Bool.and_eq_true] at e
      have hb : bef l i = 32 := by unfold bef; rw [if_neg (by have := of_decide_eq_true e.1.2; omega), isC_iff.1 e.2]
      rw [isC_iff.1 e.1.1, hb] at hf
      unfold plainF at hf
      simp [isC, has, firsts] at hf
    rw [n1, n2]; rfl
theorem refI_good {l : List UInt8} {i : Nat} (h : refI l i = true) : good (l.getD i 0) = true := by
  unfold refI at h
  rw [Bool.and_eq_true, Bool.and_eq_true] at h
  exact h.1.1
theorem plain_from {l : List UInt8} (hH : refH l = true) (h : ∀ i, i < l.length → refI l i = true) : ∀ i, i < l.length → okI plainF l i = true := by
  intro i hi
  have hg := refI_good (h i hi)
  have hi1 := h i hi
  unfold refI at hi1
  simp only [Bool.and_eq_true, Bool.not_eq_true'] at hi1
  obtain ⟨⟨-, n1⟩, n2⟩ := hi1
  unfold refH at hH
  simp only [Bool.and_eq_true, Bool.not_eq_true'] at hH
  obtain ⟨⟨⟨m1, m2⟩, m3⟩, m4⟩ := hH
  have hb : isC 10 (bef l i) = decide (i = 0) := by
    unfold isC bef
    rw [decide_eq_decide]
    by_cases e : i = 0
    · simp [e]
    · rw [if_neg e]
      exact ⟨fun e2 => absurd e2 (good_not10 (refI_good (h (i - 1) (by omega)))), fun e2 => absurd e2 e⟩
  have ha : isC 10 (aft l i) = decide (i + 1 = l.length) := by
    unfold isC aft
    rw [decide_eq_decide]
    by_cases e : i + 1 < l.length
    · rw [if_pos e]
      exact ⟨fun e2 => absurd e2 (good_not10 (refI_good (h (i + 1) e))), fun e2 => by omega⟩
    · rw [if_neg e]
      exact ⟨fun _ => by omega, fun _ => rfl⟩
  have ha2 : loose (aft l i) = (decide (i + 1 = l.length) || isC 32 (l.getD (i + 1) 0)) ∨ i + 1 = l.length := by
    by_cases e : i + 1 < l.length
    · left
      unfold loose
      rw [ha]
      unfold aft
      rw [if_pos e]
    · right; omega
  unfold okI plainF
  rw [hb, ha]
  by_cases i0 : i = 0
  · subst i0
    rw [m3, m1]
    simp only [decide_true, Bool.and_false, Bool.false_eq_true, if_false, Bool.not_true, Bool.false_or]
    have hl : isC 45 (l.getD 0 0) = true → loose (aft l 0) = false := by
      intro e
      rw [e] at m4
      simp only [Bool.true_and, Bool.or_eq_false_iff] at m4
      have m5 := of_decide_eq_false m4.1
      rcases ha2 with e2 | e2
      · rw [e2, m4.2]
        simpa using fun e3 : 1 = l.length => m5 e3.symm
      · exact absurd e2.symm m5
    have hl2 : isC 58 (l.getD 0 0) = false := by
      rw [Bool.eq_false_iff]; intro e
      rw [isC_iff.1 e] at m3
      exact absurd m3 (by decide)
    have hl3 : isC 35 (l.getD 0 0) = false := by
      rw [Bool.eq_false_iff]; intro e
      rw [isC_iff.1 e] at m3
      exact absurd m3 (by decide)
    rw [hl2, hl3, hg]
    by_cases e45 : isC 45 (l.getD 0 0) = true
    · rw [e45, hl e45]; rfl
    · rw [if_neg e45]; rfl
  · have hd : decide (i = 0) = false := decide_eq_false i0
    rw [hd]
    simp only [Bool.false_and, Bool.false_eq_true, if_false, Bool.not_false, Bool.true_and, Bool.true_or]
    by_cases e32 : isC 32 (l.getD i 0) = true
    · rw [if_pos e32]
      rw [Bool.not_eq_true', decide_eq_false_iff_not]
      intro e
      have : l.length - 1 = i := by omega
      rw [this, e32] at m2; cases m2
    · rw [if_neg e32]
      by_cases e45 : isC 45 (l.getD i 0) = true
      · rw [if_pos e45]
      · rw [if_neg e45]
        by_cases e58 : isC 58 (l.getD i 0) = true
        · rw [if_pos e58]
          rw [e58, Bool.true_and] at n1
          rcases ha2 with e2 | e2
          · rw [e2, n1]; rfl
          · simp [e2] at n1
        · rw [if_neg e58]
          by_cases e35 : isC 35 (l.getD i 0) = true
          · rw [if_pos e35]
            rw [e35, decide_eq_true (by omega : 0 < i)] at n2
            have : bef l i = l.getD (i - 1) 0 := by unfold bef; rw [if_neg i0]
            rw [this]
            simpa using n2
          · rw [if_neg e35]; exact hg
theorem plain_eq {l : List UInt8} (h : bad3 l = false) (hH : refH l = true) (hI : ∀ i, i < l.length → refI l i = true) : plainB l = true := by
  unfold plainB
  rw [h]
  exact every_yes (plain_from hH hI)
theorem plain_not3 {l : List UInt8} (h : bad3 l = true) : plainB l = false := by unfold plainB; rw [h]; rfl
theorem plain_ne {l : List UInt8} (h0 : l ≠ []) (h : refH l = false ∨ ∃ i, i < l.length ∧ refI l i = false) : plainB l = false := by
  rw [Bool.eq_false_iff]
  intro e
  unfold plainB at e
  by_cases hb : bad3 l = true
  · rw [hb] at e; cases e
  · rw [if_neg hb] at e
    obtain ⟨h1, h2⟩ := plain_to h0 (every_iff.1 e)
    rcases h with h | ⟨i, hi, h⟩
    · rw [h1] at h; cases h
    · rw [h2 i hi] at h; cases h
end Q6
end Go.Proofs.YtemndagaicamiaaGreatDoor
namespace Go.Proofs.YtemndagaicamiaaGreatDoor
namespace Q6
set_option linter.unusedVariables false
/-- A digit of sixteen. -/
def dg (n : Nat) : UInt8 := if n < 10 then UInt8.ofNat (48 + n) else UInt8.ofNat (87 + n)
/-- What a digit of sixteen is worth; 16: it is none. -/
def hexV (c : UInt8) : Nat :=
  if 48 ≤ c.toNat ∧ c.toNat ≤ 57 then c.toNat - 48 else if 97 ≤ c.toNat ∧ c.toNat ≤ 102 then c.toNat - 87 else if 65 ≤ c.toNat ∧ c.toNat ≤ 70 then c.toNat - 55 else 16
/-- A byte between double quotes. -/
def esc (c : UInt8) : List UInt8 :=
  if c = 34 ∨ c = 92 then [92, c] else if c = 10 then [92, 110] else if c = 9 then [92, 116] else if good c = true then [c] else [92, 120, dg (c.toNat / 16), dg (c.toNat % 16)]
def escL (l : List UInt8) : List UInt8 := (l.map esc).flatten
def dblL (l : List UInt8) : List UInt8 := 34 :: escL l ++ [34]
/-- A byte between single quotes. -/
def sq (c : UInt8) : List UInt8 := if c = 39 then [39, 39] else [c]
def sqL (l : List UInt8) : List UInt8 := (l.map sq).flatten
def sglL (l : List UInt8) : List UInt8 := 39 :: sqL l ++ [39]
def goodL (l : List UInt8) : Bool := l.all good
/-- What \x and two digits denote. -/
def denX : List UInt8 → UInt8 × Nat
  | a :: b :: _ => if hexV a < 16 ∧ hexV b < 16 then (UInt8.ofNat (16 * hexV a + hexV b), 4) else (0, 0)
  | _ => (0, 0)
/-- What a backslash and the rest denote. -/
def denB : List UInt8 → UInt8 × Nat
  | [] => (0, 0)
  | d :: u => if d = 92 ∨ d = 34 then (d, 2) else if d = 110 then (10, 2) else if d = 116 then (9, 2) else if d = 120 then denX u else (0, 0)
/-- The byte that the beginning of a text denotes between double quotes, and how long this beginning is; 0: it is not allowed. -/
def den : List UInt8 → UInt8 × Nat
  | [] => (0, 0)
  | c :: t => if c = 92 then denB t else if good c = true then (c, 1) else (0, 0)
theorem denX_two (a b : UInt8) (u : List UInt8) : denX (a :: b :: u) = if hexV a < 16 ∧ hexV b < 16 then (UInt8.ofNat (16 * hexV a + hexV b), 4) else (0, 0) := rfl
theorem denB_cons (d : UInt8) (u : List UInt8) : denB (d :: u) = if d = 92 ∨ d = 34 then (d, 2) else if d = 110 then (10, 2) else if d = 116 then (9, 2) else if d = 120 then denX u else (0, 0) := rfl
theorem den_cons (c : UInt8) (t : List UInt8) : den (c :: t) = if c = 92 then denB t else if good c = true then (c, 1) else (0, 0) := rfl
theorem denX_len (l : List UInt8) : (denX l).2 ≤ l.length + 2 := by
  match l with
  | [] => exact Nat.zero_le _
  | [a] => exact Nat.zero_le _
  | a :: b :: u =>
    rw [denX_two]
    split
    · show 4 ≤ u.length + 1 + 1 + 2; omega
    · exact Nat.zero_le _
theorem denB_len (l : List UInt8) : (denB l).2 ≤ l.length + 1 := by
  match l with
  | [] => exact Nat.zero_le _
  | d :: u =>
    rw [denB_cons, List.length_cons]
    have := denX_len u
    split
    · show 2 ≤ _; omega
    · split
      · show 2 ≤ _; omega
      · split
        · show 2 ≤ _; omega
        · split
          · omega
          · exact Nat.zero_le _
theorem den_len (l : List UInt8) : (den l).2 ≤ l.length := by
  match l with
  | [] => exact Nat.le_refl _
  | c :: t =>
    rw [den_cons, List.length_cons]
    have := denB_len t
    split
    · omega
    · split
      · show 1 ≤ _; omega
      · exact Nat.zero_le _
/-- The text between double quotes, behind the first one, and how many bytes it takes with the closing one. -/
def scD (l : List UInt8) : Option (List UInt8 × Nat) :=
  match l with
  | [] => none
  | c :: t =>
    if c = 34 then some ([], 1)
    else if h : (den (c :: t)).2 = 0 then none
    else (scD ((c :: t).drop (den (c :: t)).2)).map fun p => ((den (c :: t)).1 :: p.1, (den (c :: t)).2 + p.2)
  termination_by l.length
  decreasing_by
    rw [List.length_drop]
    have : 0 < (c :: t).length := Nat.succ_pos _
    omega
theorem scD_nil : scD [] = none := by rw [scD]
theorem scD_end (t : List UInt8) : scD (34 :: t) = some ([], 1) := by rw [scD, if_pos rfl]
theorem scD_bad {c : UInt8} {t : List UInt8} (hc : c ≠ 34) (h : (den (c :: t)).2 = 0) : scD (c :: t) = none := by rw [scD, if_neg hc, dif_pos h]
theorem scD_next {c : UInt8} {t : List UInt8} {v : UInt8} {m : Nat} (hc : c ≠ 34) (h : den (c :: t) = (v, m)) (hm : m ≠ 0) :
    scD (c :: t) = (scD ((c :: t).drop m)).map fun p => (v :: p.1, m + p.2) := by
  rw [scD, if_neg hc]
  rw [h]
  rw [dif_neg hm]
/-- Behind what has been read: the text so far, the place so far. -/
def push (acc : List UInt8) (k : Nat) (p : List UInt8 × Nat) : List UInt8 × Nat := (acc ++ p.1, k + p.2)
def atD (l acc : List UInt8) (k : Nat) : Option (List UInt8 × Nat) := (scD (l.drop k)).map (push acc k)
theorem drop_cons {l : List UInt8} {k : Nat} (h : k < l.length) : l.drop k = l.getD k 0 :: l.drop (k + 1) := by
  rw [List.drop_eq_getElem_cons h, List.getD_eq_getElem?_getD, List.getElem?_eq_getElem h]; rfl
theorem atD_out {l acc : List UInt8} {k : Nat} (h : l.length ≤ k) : atD l acc k = none := by unfold atD; rw [List.drop_of_length_le h, scD_nil]; rfl
theorem atD_end {l acc : List UInt8} {k : Nat} (h : k < l.length) (hc : l.getD k 0 = 34) : atD l acc k = some (acc, k + 1) := by
  unfold atD; rw [drop_cons h, hc, scD_end]; simp [push]
theorem atD_bad {l acc : List UInt8} {k : Nat} (h : k < l.length) (hc : l.getD k 0 ≠ 34) (hd : (den (l.drop k)).2 = 0) : atD l acc k = none := by
  unfold atD
  rw [drop_cons h] at hd ⊢
  rw [scD_bad hc hd]; rfl
theorem atD_next {l acc : List UInt8} {k m : Nat} {v : UInt8} (h : k < l.length) (hc : l.getD k 0 ≠ 34) (hd : den (l.drop k) = (v, m)) (hm : m ≠ 0) : atD l acc k = atD l (acc ++ [v]) (k + m) := by
  unfold atD
  have hdd : l.drop (k + m) = (l.drop k).drop m := by rw [List.drop_drop]
  rw [hdd]
  rw [drop_cons h] at hd ⊢
  rw [scD_next hc hd hm, Option.map_map]
  congr 1
  funext p
  simp [push, Nat.add_assoc]
/-- The text between single quotes, likewise. -/
def scS : List UInt8 → Option (List UInt8 × Nat)
  | [] => none
  | [c] => if c = 39 then some ([], 1) else none
  | c :: d :: t => if good c = true then (if c = 39 then (if d = 39 then (scS t).map (push [39] 2) else some ([], 1)) else (scS (d :: t)).map (push [c] 1)) else none
def atS (l acc : List UInt8) (k : Nat) : Option (List UInt8 × Nat) := (scS (l.drop k)).map (push acc k)
theorem push_push (acc b : List UInt8) (k m : Nat) (o : Option (List UInt8 × Nat)) : (o.map (push b m)).map (push acc k) = o.map (push (acc ++ b) (k + m)) := by
  rw [Option.map_map]
  congr 1
  funext p
  simp [push, Nat.add_assoc]
theorem atS_out {l acc : List UInt8} {k : Nat} (h : l.length ≤ k) : atS l acc k = none := by unfold atS; rw [List.drop_of_length_le h]; rfl
theorem atS_bad {l acc : List UInt8} {k : Nat} (h : k < l.length) (hg : good (l.getD k 0) = false) : atS l acc k = none := by
  unfold atS
  rw [drop_cons h]
  have hne : l.getD k 0 ≠ 39 := fun e => by rw [e] at hg; revert hg; decide
  generalize l.getD k 0 = c at *
  cases l.drop (k + 1) with
  | nil => unfold scS; rw [if_neg hne]; rfl
  | cons d t => unfold scS; rw [hg]; rfl
theorem atS_next {l acc : List UInt8} {k : Nat} (h : k < l.length) (hg : good (l.getD k 0) = true) (hc : l.getD k 0 ≠ 39) : atS l acc k = atS l (acc ++ [l.getD k 0]) (k + 1) := by
  unfold atS
  rw [drop_cons h]
  generalize l.getD k 0 = c at *
  cases hd : l.drop (k + 1) with
  | nil => unfold scS; rw [if_neg hc]; rfl
  | cons d t =>
    have e : scS (c :: d :: t) = (scS (d :: t)).map (push [c] 1) := by rw [scS, if_pos hg, if_neg hc]
    rw [e, push_push]
theorem atS_two {l acc : List UInt8} {k : Nat} (h : k + 1 < l.length) (hc : l.getD k 0 = 39) (hd : l.getD (k + 1) 0 = 39) : atS l acc k = atS l (acc ++ [39]) (k + 2) := by
  unfold atS
  rw [drop_cons (show k < l.length by omega), drop_cons h, hc, hd]
  have e : scS (39 :: 39 :: l.drop (k + 1 + 1)) = (scS (l.drop (k + 1 + 1))).map (push [39] 2) := by rw [scS, if_pos (by decide), if_pos rfl, if_pos rfl]
  rw [e, push_push]
theorem atS_end {l acc : List UInt8} {k : Nat} (h : k < l.length) (hc : l.getD k 0 = 39) (hd : ¬ (k + 1 < l.length ∧ l.getD (k + 1) 0 = 39)) : atS l acc k = some (acc, k + 1) := by
  unfold atS
  rw [drop_cons h, hc]
  by_cases h1 : k + 1 < l.length
  · rw [drop_cons h1]
    have hd' : l.getD (k + 1) 0 ≠ 39 := fun e => hd ⟨h1, e⟩
    generalize l.getD (k + 1) 0 = d at *
    have e : scS (39 :: d :: l.drop (k + 1 + 1)) = some ([], 1) := by rw [scS, if_pos (by decide), if_pos rfl, if_neg hd']
    rw [e]; simp [push]
  · rw [List.drop_of_length_le (by omega)]
    have e : scS [39] = some ([], 1) := by rw [scS, if_pos rfl]
    rw [e]; simp [push]
/-- A scan's answer: the text, the place behind it, the error's number. -/
def outV (r : Option (List UInt8 × Nat)) : List UInt8 := match r with | some p => p.1 | none => []
def outN (r : Option (List UInt8 × Nat)) : Int := match r with | some p => (p.2 : Int) | none => 0
def outE (r : Option (List UInt8 × Nat)) : Int := match r with | some _ => 0 | none => 3
def outB (r : Option (List UInt8 × Nat)) : Bool := r.isSome
def scanR (l : List UInt8) (k : Nat) : Option (List UInt8 × Nat) := if l.getD k 0 = 34 then atD l [] (k + 1) else atS l [] (k + 1)
def isQuote (l : List UInt8) (i : Int) : Bool := decide (0 ≤ i) && decide (i < l.length) && (decide (l.getD i.toNat 0 = 34) || decide (l.getD i.toNat 0 = 39))
def scanV (l : List UInt8) (i : Int) : List UInt8 := if isQuote l i then outV (scanR l i.toNat) else []
def scanN (l : List UInt8) (i : Int) : Int := if isQuote l i then outN (scanR l i.toNat) else 0
def scanE (l : List UInt8) (i : Int) : Int := if isQuote l i then outE (scanR l i.toNat) else 2
/- ### That the scan undoes the quoting. -/
theorem dg_nat (u : Nat) (h : u < 16) : (dg u).toNat = if u < 10 then 48 + u else 87 + u := by
  unfold dg
  split
  · rw [UInt8.toNat_ofNat']; omega
  · rw [UInt8.toNat_ofNat']; omega
theorem hex_dg (u : Nat) (h : u < 16) : hexV (dg u) = u := by
  unfold hexV
  rw [dg_nat u h]
  by_cases hu : u < 10
  · rw [if_pos hu, if_pos (by omega)]; omega
  · rw [if_neg hu, if_neg (by omega), if_pos (by omega)]; omega
theorem den_esc (c : UInt8) (r : List UInt8) : den (esc c ++ r) = (c, (esc c).length) ∧ (esc c).length ≠ 0 ∧ (esc c).headD 0 ≠ 34 := by
  unfold esc
  by_cases h1 : c = 34 ∨ c = 92
  · rw [if_pos h1]
    refine ⟨?_, by show (2 : Nat) ≠ 0; decide, by show (92 : UInt8) ≠ 34; decide⟩
    show den (92 :: c :: r) = (c, 2)
    rw [den_cons, if_pos rfl, denB_cons, if_pos h1.symm]
  rw [if_neg h1]
  by_cases h2 : c = 10
  · subst h2
    rw [if_pos rfl]
    refine ⟨?_, by decide, by show (92 : UInt8) ≠ 34; decide⟩
    show den (92 :: 110 :: r) = (10, 2)
    rw [den_cons, if_pos rfl, denB_cons, if_neg (by decide), if_pos rfl]
  rw [if_neg h2]
  by_cases h3 : c = 9
  · subst h3
    rw [if_pos rfl]
    refine ⟨?_, by decide, by show (92 : UInt8) ≠ 34; decide⟩
    show den (92 :: 116 :: r) = (9, 2)
    rw [den_cons, if_pos rfl, denB_cons, if_neg (by decide), if_neg (by decide), if_pos rfl]
  rw [if_neg h3]
  by_cases h4 : good c = true
  · rw [if_pos h4]
    refine ⟨?_, by show (1 : Nat) ≠ 0; decide, fun e => h1 (.inl e)⟩
    show den (c :: r) = (c, 1)
    rw [den_cons, if_neg (fun e => h1 (.inr e)), if_pos h4]
  rw [if_neg h4]
  refine ⟨?_, by show (4 : Nat) ≠ 0; decide, by show (92 : UInt8) ≠ 34; decide⟩
  show den (92 :: 120 :: dg (c.toNat / 16) :: dg (c.toNat % 16) :: r) = (c, 4)
  have hc := c.toNat_lt
  have e1 := hex_dg (c.toNat / 16) (by omega)
  have e2 := hex_dg (c.toNat % 16) (by omega)
  rw [den_cons, if_pos rfl, denB_cons, if_neg (by decide), if_neg (by decide), if_neg (by decide), if_pos rfl, denX_two, e1, e2, if_pos ⟨by omega, by omega⟩]
  congr 1
  apply UInt8.toNat_inj.1
  rw [UInt8.toNat_ofNat']; omega
theorem escL_cons (c : UInt8) (l : List UInt8) : escL (c :: l) = esc c ++ escL l := by unfold escL; rw [List.map_cons, List.flatten_cons]
theorem sqL_cons (c : UInt8) (l : List UInt8) : sqL (c :: l) = sq c ++ sqL l := by unfold sqL; rw [List.map_cons, List.flatten_cons]
theorem scD_esc (l r : List UInt8) : scD (escL l ++ 34 :: r) = some (l, (escL l).length + 1) := by
  induction l with
  | nil => exact scD_end r
  | cons c l ih =>
    rw [escL_cons, List.append_assoc]
    obtain ⟨h1, h2, h3⟩ := den_esc c (escL l ++ 34 :: r)
    generalize esc c = E at *
    cases E with
    | nil => exact absurd rfl h2
    | cons x xs =>
      rw [List.cons_append] at h1 ⊢
      rw [scD_next (show x ≠ 34 from h3) h1 h2]
      have e : (x :: (xs ++ (escL l ++ 34 :: r))).drop (x :: xs).length = escL l ++ 34 :: r := by
        rw [← List.cons_append]; exact List.drop_left
      rw [e, ih]
      simp [Nat.add_assoc] <;> omega
theorem scS_sq (l r : List UInt8) (hg : ∀ c ∈ l, good c = true) (hr : r = [] ∨ r.headD 0 ≠ 39) : scS (sqL l ++ 39 :: r) = some (l, (sqL l).length + 1) := by
  induction l with
  | nil =>
    show scS (39 :: r) = some ([], 1)
    cases r with
    | nil => rw [scS, if_pos rfl]
    | cons d t =>
      have hd : d ≠ 39 := by
        rcases hr with h | h
        · cases h
        · exact h
      rw [scS, if_pos (by decide), if_pos rfl, if_neg hd]
  | cons c l ih =>
    have ih := ih fun x hx => hg x (List.mem_cons_of_mem _ hx)
    rw [sqL_cons, List.append_assoc]
    unfold sq
    by_cases h : c = 39
    · subst h
      rw [if_pos rfl]
      show scS (39 :: 39 :: (sqL l ++ 39 :: r)) = _
      rw [scS, if_pos (by decide), if_pos rfl, if_pos rfl, ih]
      simp [push] <;> omega
    · rw [if_neg h]
      have hgc := hg c (List.mem_cons_self ..)
      obtain ⟨d, t, hdt⟩ : ∃ d t, sqL l ++ 39 :: r = d :: t := by
        cases hx : sqL l ++ 39 :: r with
        | nil => simp at hx
        | cons d t => exact ⟨d, t, rfl⟩
      show scS (c :: (sqL l ++ 39 :: r)) = _
      rw [hdt, scS, if_pos hgc, if_neg h, ← hdt, ih]
      simp [push] <;> omega
theorem replaceK_sq (l : List UInt8) : Lib.replaceK [39] [39, 39] (Lib.count l [39]) l = sqL l := by
  induction l with
  | nil => rw [Lib.count_one]; rfl
  | cons c l ih =>
    rw [sqL_cons]
    unfold sq
    by_cases h : c = 39
    · subst h
      rw [if_pos rfl, Lib.count_cons_eq, Nat.add_comm, Lib.replaceK_hit _ _ _ _ 0 (by rw [Lib.index]; simp [List.isPrefixOf])]
      simp only [List.take_zero, List.nil_append, Nat.zero_add, List.length_cons, List.length_nil, List.drop_succ_cons, List.drop_zero]
      rw [ih]
    · rw [if_neg h, Lib.count_cons_ne c 39 l h]
      have hp : ([39] : List UInt8).isPrefixOf (c :: l) = false := by simp [List.isPrefixOf, Ne.symm h]
      have hix : Lib.index (c :: l) [39] = if Lib.index l [39] == -1 then -1 else Lib.index l [39] + 1 := by rw [Lib.index, hp]; simp
      cases hk : Lib.count l [39] with
      | zero =>
        rw [hk] at ih
        rw [← ih]; rfl
      | succ k =>
        obtain ⟨i, hi⟩ := Lib.index_of_count (s := l) (old := [39]) (by omega)
        rw [hi] at hix
        have : ((i : Int) == -1) = false := beq_eq_false_iff_ne.2 (by omega)
        rw [this] at hix
        simp only [Bool.false_eq_true, if_false] at hix
        rw [hk, Lib.replaceK_hit _ _ _ _ i hi] at ih
        rw [Lib.replaceK_hit _ _ _ _ (i + 1) (by rw [hix]; omega), ← ih]
        simp [List.take_succ_cons]
theorem replace_sq (l : List UInt8) : Lib.replaceAll l [39] [39, 39] = sqL l := by
  have h : (([39] : List UInt8) == [39, 39]) = false := by decide
  unfold Lib.replaceAll Lib.replace Lib.replaceNum
  rw [h, if_neg Bool.false_ne_true, if_pos (.inl (by decide))]
  exact replaceK_sq l
end Q6
end Go.Proofs.YtemndagaicamiaaGreatDoor
namespace Go.Proofs.YtemndagaicamiaaGreatDoor
open Go.RowKit
open Q6
set_option linter.unusedVariables false
theorem ret_b {a b : Bool} (h : a = b) : Ending.returned (.bool a) = .returned (.bool b) := by rw [h]
theorem ret_int {k : IntKind} {a b : Int} (h : a = b) : Ending.returned (.int k a) = .returned (.int k b) := by rw [h]
theorem ret_s {a b : ByteArray} (h : a = b) : Ending.returned (.string a) = .returned (.string b) := by rw [h]
theorem len_eq (s : ByteArray) : s.data.toList.length = s.size := rfl
theorem isC_beq (k c : UInt8) (x : Int) (h : (k.toNat : Int) = x) : ((c.toNat : Int) == x) = isC k c := by
  subst h
  unfold isC
  rw [Bool.eq_iff_iff]
  simp only [beq_iff_eq, decide_eq_true_eq]
  constructor
  · intro h; apply UInt8.toNat_inj.1; omega
  · intro h; rw [h]
theorem isC_bne (k c : UInt8) (x : Int) (h : (k.toNat : Int) = x) : ((c.toNat : Int) != x) = !isC k c := by
  show (!((c.toNat : Int) == x)) = _
  rw [isC_beq k c x h]
theorem isC_ne {k j c : UInt8} (h : isC k c = true) (hkj : k ≠ j) : isC j c = false := by
  rw [Bool.eq_false_iff]; intro e
  exact hkj ((isC_iff.1 h).symm.trans (isC_iff.1 e))

theorem printable_any (c : UInt8) (w : World) : Calls Tryz.prog 54 #[.int .u8 c.toNat] w fun e w' => e = .returned (.bool (good c)) ∧ w = w' := by
  by_cases h1 : (32 : Int) ≤ (c.toNat : Int)
  · rcases Bool.eq_false_or_eq_true (isC 127 c) with h2 | h2
    all_goals
      have H : Hid (good c = !isC 127 c) := Lib.hid (by
        unfold good isC
        rw [decide_eq_true (by omega : 32 ≤ c.toNat), Bool.true_and, ← decide_not, decide_eq_decide]
        exact ⟨fun e e2 => e (by rw [e2]; rfl), fun e e2 => e (UInt8.toNat_inj.1 e2)⟩)
      have m := isC_bne 127 c 127 rfl
      rw [h2] at m H
      go_enter Tryz.func54, Tryz.ntmps54
      go_wp2
      all_goals (go_ret; exact ⟨ret_b H.out.symm, rfl⟩)
  · have H : Hid (good c = false) := Lib.hid (by unfold good; rw [decide_eq_false (by omega : ¬ 32 ≤ c.toNat)]; rfl)
    go_enter Tryz.func54, Tryz.ntmps54
    go_wp2
    go_ret
    exact ⟨ret_b H.out.symm, rfl⟩
theorem contains_any (s : ByteArray) (l : List UInt8) (hl : s.data.toList = l) (c : UInt8) (w : World) :
    Calls Tryz.prog 53 #[.string s, .int .u8 c.toNat] w fun e w' => e = .returned (.bool (has l c)) ∧ w = w' := by
  subst hl
  have H := Lib.hid (index_has s.data.toList c)
  have hc : ((c.toNat : Int)).toNat.toUInt8 = c := by simp
  have hI := Tryz.strings_IndexByte s (c.toNat : Int)
  rw [hc] at hI
  generalize Lib.indexByte s.data.toList c = x at *
  clear hc
  go_enter Tryz.func53, Tryz.ntmps53
  go_wp2_with (go_at_call 68; refine (hI _).mono ?_; rintro e w' ⟨rfl, hw⟩; subst hw)
  go_ret
  exact ⟨ret_b H.out, rfl⟩
theorem has_row (c : UInt8) (w : World) : Calls Tryz.prog 53 #[.string ⟨#[44, 91, 93, 123, 125]⟩, .int .u8 c.toNat] w fun e w' => e = .returned (.bool (has marks c)) ∧ w = w' := contains_any _ _ rfl c w
theorem has_first (c : UInt8) (w : World) : Calls Tryz.prog 53 #[.string ⟨#[44, 91, 93, 123, 125, 63, 58, 35, 38, 42, 33, 124, 62, 39, 34, 37, 64, 96]⟩, .int .u8 c.toNat] w fun e w' => e = .returned (.bool (has firsts c)) ∧ w = w' := contains_any _ _ rfl c w
theorem row1_any (b c a : UInt8) (w : World) : Calls Tryz.prog 55 #[.int .u8 b.toNat, .int .u8 c.toNat, .int .u8 a.toNat] w fun e w' => e = .returned (.bool (rowF b c a)) ∧ w = w' := by
  have H : Hid (rowF b c a = !has marks c) := Lib.hid rfl
  go_enter Tryz.func55, Tryz.ntmps55
  go_wp2_with (go_at_call 53; refine (has_row _ _).mono ?_; rintro e w' ⟨rfl, rfl⟩)
  go_ret
  exact ⟨ret_b H.out.symm, rfl⟩
end Go.Proofs.YtemndagaicamiaaGreatDoor
namespace Go.Proofs.YtemndagaicamiaaGreatDoor
open Go.RowKit
open Q6
set_option linter.unusedVariables false
/-- A function value that tells a byte between its neighbours, and turns nothing. -/
def Tells3 (g : Nat) (F : UInt8 → UInt8 → UInt8 → Bool) : Prop :=
  (∀ args w, (callFunc g args).run Tryz.prog w = .ok (.enter g args) w) ∧
  ∀ (b c a : UInt8) (w : World), Calls Tryz.prog g #[.int .u8 b.toNat, .int .u8 c.toNat, .int .u8 a.toNat] w fun e w' => e = .returned (.bool (F b c a)) ∧ w = w'
theorem getd (s : ByteArray) (k : Nat) (h : k < s.size) : s.data.toList.getD k 0 = s[k] := by
  rw [List.getD_eq_getElem?_getD, List.getElem?_eq_getElem (by rw [len_eq]; exact h)]; rfl
theorem bef_zero (l : List UInt8) : bef l 0 = 10 := rfl
theorem bef_succ (l : List UInt8) (k : Nat) : bef l (k + 1) = l.getD k 0 := by unfold bef; rw [if_neg (by omega)]; rfl
theorem aft_in {l : List UInt8} {k : Nat} (h : k + 1 < l.length) : aft l k = l.getD (k + 1) 0 := by unfold aft; rw [if_pos h]
theorem aft_out {l : List UInt8} {k : Nat} (h : ¬ k + 1 < l.length) : aft l k = 10 := by unfold aft; rw [if_neg h]
set_option maxHeartbeats 1600000 in
theorem every_any (s : ByteArray) (g : Nat) (F : UInt8 → UInt8 → UInt8 → Bool) (w : World) (hs : s.size ≤ maxLen) (T : Tells3 g F) :
    Calls Tryz.prog 51 #[.string s, .func (.func g) #[] #[]] w fun e w' => e = .returned (.bool (everyB F s.data.toList)) ∧ w = w' := by
  unfold maxLen at hs
  obtain ⟨e1, t1⟩ := T
  have T1 : Hid (∀ (b c a : UInt8) (w : World), Calls Tryz.prog g #[.int .u8 b.toNat, .int .u8 c.toNat, .int .u8 a.toNat] w fun e w' => e = .returned (.bool (F b c a)) ∧ w = w') := Lib.hid t1
  clear t1
  have hlen : s.data.toList.length = s.size := len_eq s
  have HL := Lib.hid hlen
  clear hlen
  go_enter Tryz.func51, Tryz.ntmps51
  go_wp2
  go_loop [5, 10] (fun b i => ∃ k : Nat, k ≤ s.size ∧ i = .int .i64 k ∧ b = .int .u8 ((bef s.data.toList k).toNat : Int) ∧ ∀ j, j < k → okI F s.data.toList j = true) (fun _ i => s.size - (intOf i).toNat)
  case atStart => exact ⟨0, Nat.zero_le _, rfl, rfl, fun j h => absurd h (Nat.not_lt_zero _)⟩
  case round =>
    obtain ⟨k, hk, rfl, rfl, hall⟩ := hrel
    have HA := Lib.hid hall; clear hall
    by_cases hlt : k < s.size
    · have HX := Lib.hid (getd s k hlt)
      have HBS := Lib.hid (bef_succ s.data.toList k)
      have HO : Hid (okI F s.data.toList k = F (bef s.data.toList k) (s.data.toList.getD k 0) (aft s.data.toList k)) := Lib.hid rfl
      by_cases hnx : k + 1 < s.size
      · have HY := Lib.hid ((aft_in (l := s.data.toList) (k := k) (by rw [HL.out]; exact hnx)).trans (getd s (k + 1) hnx))
        have hcall := T1.out (bef s.data.toList k) s[k] s[k + 1]
        have hnxz : (k : Int) + 1 < (s.size : Int) := by omega
        have hF : F (bef s.data.toList k) s[k] s[k + 1] = okI F s.data.toList k := by rw [HO.out, HX.out, HY.out]
        rw [hF] at hcall
        clear hF
        generalize bef s.data.toList k = bb at *
        rcases Bool.eq_false_or_eq_true (okI F s.data.toList k) with h3 | h3
        · rw [h3] at hcall
          have HB := Lib.hid h3; clear h3
          go_wp2_with (go_at_fn g; refine (hcall _).mono ?_; rintro e w' ⟨rfl, rfl⟩)
          go_round
          case rel =>
            refine ⟨k + 1, by omega, by go_num, by rw [HBS.out, HX.out], fun j hj => ?_⟩
            rcases Nat.lt_succ_iff_lt_or_eq.1 hj with h | rfl
            · exact HA.out j h
            · exact HB.out
          case measure => simp [intOf]; omega
        · rw [h3] at hcall
          have HB := Lib.hid h3; clear h3
          go_wp2_with (go_at_fn g; refine (hcall _).mono ?_; rintro e w' ⟨rfl, rfl⟩)
          go_ret
          exact ⟨ret_b (every_no (i := k) (by rw [HL.out]; exact hlt) HB.out).symm, rfl⟩
      · have HY := Lib.hid (aft_out (l := s.data.toList) (k := k) (by rw [HL.out]; exact hnx))
        have hcall := T1.out (bef s.data.toList k) s[k] 10
        have h10 : ((10 : UInt8).toNat : Int) = 10 := rfl
        rw [h10] at hcall
        clear h10
        have hnxz : ¬ (k : Int) + 1 < (s.size : Int) := by omega
        have hF : F (bef s.data.toList k) s[k] 10 = okI F s.data.toList k := by rw [HO.out, HX.out, HY.out]
        rw [hF] at hcall
        clear hF
        generalize bef s.data.toList k = bb at *
        rcases Bool.eq_false_or_eq_true (okI F s.data.toList k) with h3 | h3
        · rw [h3] at hcall
          have HB := Lib.hid h3; clear h3
          go_wp2_with (go_at_fn g; refine (hcall _).mono ?_; rintro e w' ⟨rfl, rfl⟩)
          go_round
          case rel =>
            refine ⟨k + 1, by omega, by go_num, by rw [HBS.out, HX.out], fun j hj => ?_⟩
            rcases Nat.lt_succ_iff_lt_or_eq.1 hj with h | rfl
            · exact HA.out j h
            · exact HB.out
          case measure => simp [intOf]; omega
        · rw [h3] at hcall
          have HB := Lib.hid h3; clear h3
          go_wp2_with (go_at_fn g; refine (hcall _).mono ?_; rintro e w' ⟨rfl, rfl⟩)
          go_ret
          exact ⟨ret_b (every_no (i := k) (by rw [HL.out]; exact hlt) HB.out).symm, rfl⟩
    · go_wp2
      go_ret
      obtain rfl : k = s.size := by omega
      exact ⟨ret_b (every_yes (fun i hi => HA.out i (by rw [HL.out] at hi; exact hi))).symm, rfl⟩
end Go.Proofs.YtemndagaicamiaaGreatDoor
namespace Go.Proofs.YtemndagaicamiaaGreatDoor
open Go.RowKit
open Q6
set_option linter.unusedVariables false
theorem p1_first (b c a : UInt8) (w : World) (hb10 : isC 10 b = true) (hf : has firsts c = true) :
    Calls Tryz.prog 52 #[.int .u8 b.toNat, .int .u8 c.toNat, .int .u8 a.toNat] w fun e w' => e = .returned (.bool (plainF b c a)) ∧ w = w' := by
  have H : Hid (plainF b c a = false) := Lib.hid (by unfold plainF; rw [hb10, hf]; rfl)
  have mb10 : ((b.toNat : Int) == 10) = true := (isC_beq 10 b 10 rfl).trans hb10
  have nb10 : ((b.toNat : Int) != 10) = false := (isC_bne 10 b 10 rfl).trans (by rw [hb10]; rfl)
  have HB := Lib.hid hb10
  clear hb10
  go_enter Tryz.func52, Tryz.ntmps52
  go_wp2_with (go_at_call 53; refine (has_first _ _).mono ?_; rintro e w' ⟨rfl, rfl⟩)
  go_ret
  exact ⟨ret_b H.out.symm, rfl⟩
theorem p1_b_a10_k32 (b c a : UInt8) (w : World) (hb10 : isC 10 b = true) (hf : has firsts c = false) (ha10 : isC 10 a = true) (ha32 : isC 32 a = false) (hc32 : isC 32 c = true) (hc45 : isC 45 c = false) (hc58 : isC 58 c = false) (hc35 : isC 35 c = false) :
    Calls Tryz.prog 52 #[.int .u8 b.toNat, .int .u8 c.toNat, .int .u8 a.toNat] w fun e w' => e = .returned (.bool (plainF b c a)) ∧ w = w' := by
  have H : Hid (plainF b c a = false) := Lib.hid (by unfold plainF loose; simp [*])
  have mb10 : ((b.toNat : Int) == 10) = true := (isC_beq 10 b 10 rfl).trans hb10
  have nb10 : ((b.toNat : Int) != 10) = false := (isC_bne 10 b 10 rfl).trans (by rw [hb10]; rfl)
  have ma10 : ((a.toNat : Int) == 10) = true := (isC_beq 10 a 10 rfl).trans ha10
  have na10 : ((a.toNat : Int) != 10) = false := (isC_bne 10 a 10 rfl).trans (by rw [ha10]; rfl)
  have ma32 : ((a.toNat : Int) == 32) = false := (isC_beq 32 a 32 rfl).trans ha32
  have na32 : ((a.toNat : Int) != 32) = true := (isC_bne 32 a 32 rfl).trans (by rw [ha32]; rfl)
  have mc32 : ((c.toNat : Int) == 32) = true := (isC_beq 32 c 32 rfl).trans hc32
  have nc32 : ((c.toNat : Int) != 32) = false := (isC_bne 32 c 32 rfl).trans (by rw [hc32]; rfl)
  have mc45 : ((c.toNat : Int) == 45) = false := (isC_beq 45 c 45 rfl).trans hc45
  have nc45 : ((c.toNat : Int) != 45) = true := (isC_bne 45 c 45 rfl).trans (by rw [hc45]; rfl)
  have mc58 : ((c.toNat : Int) == 58) = false := (isC_beq 58 c 58 rfl).trans hc58
  have nc58 : ((c.toNat : Int) != 58) = true := (isC_bne 58 c 58 rfl).trans (by rw [hc58]; rfl)
  have mc35 : ((c.toNat : Int) == 35) = false := (isC_beq 35 c 35 rfl).trans hc35
  have nc35 : ((c.toNat : Int) != 35) = true := (isC_bne 35 c 35 rfl).trans (by rw [hc35]; rfl)
  clear hb10 ha10 ha32 hc32 hc45 hc58 hc35
  go_enter Tryz.func52, Tryz.ntmps52
  go_wp2_with (first | (go_at_call 53; refine (has_first _ _).mono ?_; rintro e w' ⟨rfl, rfl⟩))
  go_ret
  exact ⟨ret_b H.out.symm, rfl⟩
theorem p1_b_a10_k45 (b c a : UInt8) (w : World) (hb10 : isC 10 b = true) (hf : has firsts c = false) (ha10 : isC 10 a = true) (ha32 : isC 32 a = false) (hc32 : isC 32 c = false) (hc45 : isC 45 c = true) (hc58 : isC 58 c = false) (hc35 : isC 35 c = false) :
    Calls Tryz.prog 52 #[.int .u8 b.toNat, .int .u8 c.toNat, .int .u8 a.toNat] w fun e w' => e = .returned (.bool (plainF b c a)) ∧ w = w' := by
  have H : Hid (plainF b c a = false) := Lib.hid (by unfold plainF loose; simp [*])
  have mb10 : ((b.toNat : Int) == 10) = true := (isC_beq 10 b 10 rfl).trans hb10
  have nb10 : ((b.toNat : Int) != 10) = false := (isC_bne 10 b 10 rfl).trans (by rw [hb10]; rfl)
  have ma10 : ((a.toNat : Int) == 10) = true := (isC_beq 10 a 10 rfl).trans ha10
  have na10 : ((a.toNat : Int) != 10) = false := (isC_bne 10 a 10 rfl).trans (by rw [ha10]; rfl)
  have ma32 : ((a.toNat : Int) == 32) = false := (isC_beq 32 a 32 rfl).trans ha32
  have na32 : ((a.toNat : Int) != 32) = true := (isC_bne 32 a 32 rfl).trans (by rw [ha32]; rfl)
  have mc32 : ((c.toNat : Int) == 32) = false := (isC_beq 32 c 32 rfl).trans hc32
  have nc32 : ((c.toNat : Int) != 32) = true := (isC_bne 32 c 32 rfl).trans (by rw [hc32]; rfl)
  have mc45 : ((c.toNat : Int) == 45) = true := (isC_beq 45 c 45 rfl).trans hc45
  have nc45 : ((c.toNat : Int) != 45) = false := (isC_bne 45 c 45 rfl).trans (by rw [hc45]; rfl)
  have mc58 : ((c.toNat : Int) == 58) = false := (isC_beq 58 c 58 rfl).trans hc58
  have nc58 : ((c.toNat : Int) != 58) = true := (isC_bne 58 c 58 rfl).trans (by rw [hc58]; rfl)
  have mc35 : ((c.toNat : Int) == 35) = false := (isC_beq 35 c 35 rfl).trans hc35
  have nc35 : ((c.toNat : Int) != 35) = true := (isC_bne 35 c 35 rfl).trans (by rw [hc35]; rfl)
  clear hb10 ha10 ha32 hc32 hc45 hc58 hc35
  go_enter Tryz.func52, Tryz.ntmps52
  go_wp2_with (first | (go_at_call 53; refine (has_first _ _).mono ?_; rintro e w' ⟨rfl, rfl⟩))
  go_ret
  exact ⟨ret_b H.out.symm, rfl⟩
theorem p1_b_a10_k58 (b c a : UInt8) (w : World) (hb10 : isC 10 b = true) (hf : has firsts c = false) (ha10 : isC 10 a = true) (ha32 : isC 32 a = false) (hc32 : isC 32 c = false) (hc45 : isC 45 c = false) (hc58 : isC 58 c = true) (hc35 : isC 35 c = false) :
    Calls Tryz.prog 52 #[.int .u8 b.toNat, .int .u8 c.toNat, .int .u8 a.toNat] w fun e w' => e = .returned (.bool (plainF b c a)) ∧ w = w' := by
  have H : Hid (plainF b c a = false) := Lib.hid (by unfold plainF loose; simp [*])
  have mb10 : ((b.toNat : Int) == 10) = true := (isC_beq 10 b 10 rfl).trans hb10
  have nb10 : ((b.toNat : Int) != 10) = false := (isC_bne 10 b 10 rfl).trans (by rw [hb10]; rfl)
  have ma10 : ((a.toNat : Int) == 10) = true := (isC_beq 10 a 10 rfl).trans ha10
  have na10 : ((a.toNat : Int) != 10) = false := (isC_bne 10 a 10 rfl).trans (by rw [ha10]; rfl)
  have ma32 : ((a.toNat : Int) == 32) = false := (isC_beq 32 a 32 rfl).trans ha32
  have na32 : ((a.toNat : Int) != 32) = true := (isC_bne 32 a 32 rfl).trans (by rw [ha32]; rfl)
  have mc32 : ((c.toNat : Int) == 32) = false := (isC_beq 32 c 32 rfl).trans hc32
  have nc32 : ((c.toNat : Int) != 32) = true := (isC_bne 32 c 32 rfl).trans (by rw [hc32]; rfl)
  have mc45 : ((c.toNat : Int) == 45) = false := (isC_beq 45 c 45 rfl).trans hc45
  have nc45 : ((c.toNat : Int) != 45) = true := (isC_bne 45 c 45 rfl).trans (by rw [hc45]; rfl)
  have mc58 : ((c.toNat : Int) == 58) = true := (isC_beq 58 c 58 rfl).trans hc58
  have nc58 : ((c.toNat : Int) != 58) = false := (isC_bne 58 c 58 rfl).trans (by rw [hc58]; rfl)
  have mc35 : ((c.toNat : Int) == 35) = false := (isC_beq 35 c 35 rfl).trans hc35
  have nc35 : ((c.toNat : Int) != 35) = true := (isC_bne 35 c 35 rfl).trans (by rw [hc35]; rfl)
  clear hb10 ha10 ha32 hc32 hc45 hc58 hc35
  go_enter Tryz.func52, Tryz.ntmps52
  go_wp2_with (first | (go_at_call 53; refine (has_first _ _).mono ?_; rintro e w' ⟨rfl, rfl⟩))
  go_ret
  exact ⟨ret_b H.out.symm, rfl⟩
theorem p1_b_a10_k35 (b c a : UInt8) (w : World) (hb10 : isC 10 b = true) (hf : has firsts c = false) (ha10 : isC 10 a = true) (ha32 : isC 32 a = false) (hc32 : isC 32 c = false) (hc45 : isC 45 c = false) (hc58 : isC 58 c = false) (hc35 : isC 35 c = true) :
    Calls Tryz.prog 52 #[.int .u8 b.toNat, .int .u8 c.toNat, .int .u8 a.toNat] w fun e w' => e = .returned (.bool (plainF b c a)) ∧ w = w' := by
  have H : Hid (plainF b c a = !isC 32 b) := Lib.hid (by unfold plainF loose; simp [*])
  have mb10 : ((b.toNat : Int) == 10) = true := (isC_beq 10 b 10 rfl).trans hb10
  have nb10 : ((b.toNat : Int) != 10) = false := (isC_bne 10 b 10 rfl).trans (by rw [hb10]; rfl)
  have ma10 : ((a.toNat : Int) == 10) = true := (isC_beq 10 a 10 rfl).trans ha10
  have na10 : ((a.toNat : Int) != 10) = false := (isC_bne 10 a 10 rfl).trans (by rw [ha10]; rfl)
  have ma32 : ((a.toNat : Int) == 32) = false := (isC_beq 32 a 32 rfl).trans ha32
  have na32 : ((a.toNat : Int) != 32) = true := (isC_bne 32 a 32 rfl).trans (by rw [ha32]; rfl)
  have mc32 : ((c.toNat : Int) == 32) = false := (isC_beq 32 c 32 rfl).trans hc32
  have nc32 : ((c.toNat : Int) != 32) = true := (isC_bne 32 c 32 rfl).trans (by rw [hc32]; rfl)
  have mc45 : ((c.toNat : Int) == 45) = false := (isC_beq 45 c 45 rfl).trans hc45
  have nc45 : ((c.toNat : Int) != 45) = true := (isC_bne 45 c 45 rfl).trans (by rw [hc45]; rfl)
  have mc58 : ((c.toNat : Int) == 58) = false := (isC_beq 58 c 58 rfl).trans hc58
  have nc58 : ((c.toNat : Int) != 58) = true := (isC_bne 58 c 58 rfl).trans (by rw [hc58]; rfl)
  have mc35 : ((c.toNat : Int) == 35) = true := (isC_beq 35 c 35 rfl).trans hc35
  have nc35 : ((c.toNat : Int) != 35) = false := (isC_bne 35 c 35 rfl).trans (by rw [hc35]; rfl)
  have nb32 : ((b.toNat : Int) != 32) = !isC 32 b := isC_bne 32 b 32 rfl
  clear hb10 ha10 ha32 hc32 hc45 hc58 hc35
  go_enter Tryz.func52, Tryz.ntmps52
  go_wp2_with (first | (go_at_call 53; refine (has_first _ _).mono ?_; rintro e w' ⟨rfl, rfl⟩))
  go_ret
  exact ⟨ret_b H.out.symm, rfl⟩
theorem p1_b_a10_k (b c a : UInt8) (w : World) (hb10 : isC 10 b = true) (hf : has firsts c = false) (ha10 : isC 10 a = true) (ha32 : isC 32 a = false) (hc32 : isC 32 c = false) (hc45 : isC 45 c = false) (hc58 : isC 58 c = false) (hc35 : isC 35 c = false) :
    Calls Tryz.prog 52 #[.int .u8 b.toNat, .int .u8 c.toNat, .int .u8 a.toNat] w fun e w' => e = .returned (.bool (plainF b c a)) ∧ w = w' := by
  have H : Hid (plainF b c a = good c) := Lib.hid (by unfold plainF loose; simp [*])
  have mb10 : ((b.toNat : Int) == 10) = true := (isC_beq 10 b 10 rfl).trans hb10
  have nb10 : ((b.toNat : Int) != 10) = false := (isC_bne 10 b 10 rfl).trans (by rw [hb10]; rfl)
  have ma10 : ((a.toNat : Int) == 10) = true := (isC_beq 10 a 10 rfl).trans ha10
  have na10 : ((a.toNat : Int) != 10) = false := (isC_bne 10 a 10 rfl).trans (by rw [ha10]; rfl)
  have ma32 : ((a.toNat : Int) == 32) = false := (isC_beq 32 a 32 rfl).trans ha32
  have na32 : ((a.toNat : Int) != 32) = true := (isC_bne 32 a 32 rfl).trans (by rw [ha32]; rfl)
  have mc32 : ((c.toNat : Int) == 32) = false := (isC_beq 32 c 32 rfl).trans hc32
  have nc32 : ((c.toNat : Int) != 32) = true := (isC_bne 32 c 32 rfl).trans (by rw [hc32]; rfl)
  have mc45 : ((c.toNat : Int) == 45) = false := (isC_beq 45 c 45 rfl).trans hc45
  have nc45 : ((c.toNat : Int) != 45) = true := (isC_bne 45 c 45 rfl).trans (by rw [hc45]; rfl)
  have mc58 : ((c.toNat : Int) == 58) = false := (isC_beq 58 c 58 rfl).trans hc58
  have nc58 : ((c.toNat : Int) != 58) = true := (isC_bne 58 c 58 rfl).trans (by rw [hc58]; rfl)
  have mc35 : ((c.toNat : Int) == 35) = false := (isC_beq 35 c 35 rfl).trans hc35
  have nc35 : ((c.toNat : Int) != 35) = true := (isC_bne 35 c 35 rfl).trans (by rw [hc35]; rfl)
  clear hb10 ha10 ha32 hc32 hc45 hc58 hc35
  go_enter Tryz.func52, Tryz.ntmps52
  go_wp2_with (first | (go_at_call 53; refine (has_first _ _).mono ?_; rintro e w' ⟨rfl, rfl⟩) | (go_at_call 54; refine (printable_any _ _).mono ?_; rintro e w' ⟨rfl, rfl⟩))
  go_ret
  exact ⟨ret_b H.out.symm, rfl⟩
theorem p1_b_a32_k32 (b c a : UInt8) (w : World) (hb10 : isC 10 b = true) (hf : has firsts c = false) (ha10 : isC 10 a = false) (ha32 : isC 32 a = true) (hc32 : isC 32 c = true) (hc45 : isC 45 c = false) (hc58 : isC 58 c = false) (hc35 : isC 35 c = false) :
    Calls Tryz.prog 52 #[.int .u8 b.toNat, .int .u8 c.toNat, .int .u8 a.toNat] w fun e w' => e = .returned (.bool (plainF b c a)) ∧ w = w' := by
  have H : Hid (plainF b c a = false) := Lib.hid (by unfold plainF loose; simp [*])
  have mb10 : ((b.toNat : Int) == 10) = true := (isC_beq 10 b 10 rfl).trans hb10
  have nb10 : ((b.toNat : Int) != 10) = false := (isC_bne 10 b 10 rfl).trans (by rw [hb10]; rfl)
  have ma10 : ((a.toNat : Int) == 10) = false := (isC_beq 10 a 10 rfl).trans ha10
  have na10 : ((a.toNat : Int) != 10) = true := (isC_bne 10 a 10 rfl).trans (by rw [ha10]; rfl)
  have ma32 : ((a.toNat : Int) == 32) = true := (isC_beq 32 a 32 rfl).trans ha32
  have na32 : ((a.toNat : Int) != 32) = false := (isC_bne 32 a 32 rfl).trans (by rw [ha32]; rfl)
  have mc32 : ((c.toNat : Int) == 32) = true := (isC_beq 32 c 32 rfl).trans hc32
  have nc32 : ((c.toNat : Int) != 32) = false := (isC_bne 32 c 32 rfl).trans (by rw [hc32]; rfl)
  have mc45 : ((c.toNat : Int) == 45) = false := (isC_beq 45 c 45 rfl).trans hc45
  have nc45 : ((c.toNat : Int) != 45) = true := (isC_bne 45 c 45 rfl).trans (by rw [hc45]; rfl)
  have mc58 : ((c.toNat : Int) == 58) = false := (isC_beq 58 c 58 rfl).trans hc58
  have nc58 : ((c.toNat : Int) != 58) = true := (isC_bne 58 c 58 rfl).trans (by rw [hc58]; rfl)
  have mc35 : ((c.toNat : Int) == 35) = false := (isC_beq 35 c 35 rfl).trans hc35
  have nc35 : ((c.toNat : Int) != 35) = true := (isC_bne 35 c 35 rfl).trans (by rw [hc35]; rfl)
  clear hb10 ha10 ha32 hc32 hc45 hc58 hc35
  go_enter Tryz.func52, Tryz.ntmps52
  go_wp2_with (first | (go_at_call 53; refine (has_first _ _).mono ?_; rintro e w' ⟨rfl, rfl⟩))
  go_ret
  exact ⟨ret_b H.out.symm, rfl⟩
theorem p1_b_a32_k45 (b c a : UInt8) (w : World) (hb10 : isC 10 b = true) (hf : has firsts c = false) (ha10 : isC 10 a = false) (ha32 : isC 32 a = true) (hc32 : isC 32 c = false) (hc45 : isC 45 c = true) (hc58 : isC 58 c = false) (hc35 : isC 35 c = false) :
    Calls Tryz.prog 52 #[.int .u8 b.toNat, .int .u8 c.toNat, .int .u8 a.toNat] w fun e w' => e = .returned (.bool (plainF b c a)) ∧ w = w' := by
  have H : Hid (plainF b c a = false) := Lib.hid (by unfold plainF loose; simp [*])
  have mb10 : ((b.toNat : Int) == 10) = true := (isC_beq 10 b 10 rfl).trans hb10
  have nb10 : ((b.toNat : Int) != 10) = false := (isC_bne 10 b 10 rfl).trans (by rw [hb10]; rfl)
  have ma10 : ((a.toNat : Int) == 10) = false := (isC_beq 10 a 10 rfl).trans ha10
  have na10 : ((a.toNat : Int) != 10) = true := (isC_bne 10 a 10 rfl).trans (by rw [ha10]; rfl)
  have ma32 : ((a.toNat : Int) == 32) = true := (isC_beq 32 a 32 rfl).trans ha32
  have na32 : ((a.toNat : Int) != 32) = false := (isC_bne 32 a 32 rfl).trans (by rw [ha32]; rfl)
  have mc32 : ((c.toNat : Int) == 32) = false := (isC_beq 32 c 32 rfl).trans hc32
  have nc32 : ((c.toNat : Int) != 32) = true := (isC_bne 32 c 32 rfl).trans (by rw [hc32]; rfl)
  have mc45 : ((c.toNat : Int) == 45) = true := (isC_beq 45 c 45 rfl).trans hc45
  have nc45 : ((c.toNat : Int) != 45) = false := (isC_bne 45 c 45 rfl).trans (by rw [hc45]; rfl)
  have mc58 : ((c.toNat : Int) == 58) = false := (isC_beq 58 c 58 rfl).trans hc58
  have nc58 : ((c.toNat : Int) != 58) = true := (isC_bne 58 c 58 rfl).trans (by rw [hc58]; rfl)
  have mc35 : ((c.toNat : Int) == 35) = false := (isC_beq 35 c 35 rfl).trans hc35
  have nc35 : ((c.toNat : Int) != 35) = true := (isC_bne 35 c 35 rfl).trans (by rw [hc35]; rfl)
  clear hb10 ha10 ha32 hc32 hc45 hc58 hc35
  go_enter Tryz.func52, Tryz.ntmps52
  go_wp2_with (first | (go_at_call 53; refine (has_first _ _).mono ?_; rintro e w' ⟨rfl, rfl⟩))
  go_ret
  exact ⟨ret_b H.out.symm, rfl⟩
theorem p1_b_a32_k58 (b c a : UInt8) (w : World) (hb10 : isC 10 b = true) (hf : has firsts c = false) (ha10 : isC 10 a = false) (ha32 : isC 32 a = true) (hc32 : isC 32 c = false) (hc45 : isC 45 c = false) (hc58 : isC 58 c = true) (hc35 : isC 35 c = false) :
    Calls Tryz.prog 52 #[.int .u8 b.toNat, .int .u8 c.toNat, .int .u8 a.toNat] w fun e w' => e = .returned (.bool (plainF b c a)) ∧ w = w' := by
  have H : Hid (plainF b c a = false) := Lib.hid (by unfold plainF loose; simp [*])
  have mb10 : ((b.toNat : Int) == 10) = true := (isC_beq 10 b 10 rfl).trans hb10
  have nb10 : ((b.toNat : Int) != 10) = false := (isC_bne 10 b 10 rfl).trans (by rw [hb10]; rfl)
  have ma10 : ((a.toNat : Int) == 10) = false := (isC_beq 10 a 10 rfl).trans ha10
  have na10 : ((a.toNat : Int) != 10) = true := (isC_bne 10 a 10 rfl).trans (by rw [ha10]; rfl)
  have ma32 : ((a.toNat : Int) == 32) = true := (isC_beq 32 a 32 rfl).trans ha32
  have na32 : ((a.toNat : Int) != 32) = false := (isC_bne 32 a 32 rfl).trans (by rw [ha32]; rfl)
  have mc32 : ((c.toNat : Int) == 32) = false := (isC_beq 32 c 32 rfl).trans hc32
  have nc32 : ((c.toNat : Int) != 32) = true := (isC_bne 32 c 32 rfl).trans (by rw [hc32]; rfl)
  have mc45 : ((c.toNat : Int) == 45) = false := (isC_beq 45 c 45 rfl).trans hc45
  have nc45 : ((c.toNat : Int) != 45) = true := (isC_bne 45 c 45 rfl).trans (by rw [hc45]; rfl)
  have mc58 : ((c.toNat : Int) == 58) = true := (isC_beq 58 c 58 rfl).trans hc58
  have nc58 : ((c.toNat : Int) != 58) = false := (isC_bne 58 c 58 rfl).trans (by rw [hc58]; rfl)
  have mc35 : ((c.toNat : Int) == 35) = false := (isC_beq 35 c 35 rfl).trans hc35
  have nc35 : ((c.toNat : Int) != 35) = true := (isC_bne 35 c 35 rfl).trans (by rw [hc35]; rfl)
  clear hb10 ha10 ha32 hc32 hc45 hc58 hc35
  go_enter Tryz.func52, Tryz.ntmps52
  go_wp2_with (first | (go_at_call 53; refine (has_first _ _).mono ?_; rintro e w' ⟨rfl, rfl⟩))
  go_ret
  exact ⟨ret_b H.out.symm, rfl⟩
theorem p1_b_a32_k35 (b c a : UInt8) (w : World) (hb10 : isC 10 b = true) (hf : has firsts c = false) (ha10 : isC 10 a = false) (ha32 : isC 32 a = true) (hc32 : isC 32 c = false) (hc45 : isC 45 c = false) (hc58 : isC 58 c = false) (hc35 : isC 35 c = true) :
    Calls Tryz.prog 52 #[.int .u8 b.toNat, .int .u8 c.toNat, .int .u8 a.toNat] w fun e w' => e = .returned (.bool (plainF b c a)) ∧ w = w' := by
  have H : Hid (plainF b c a = !isC 32 b) := Lib.hid (by unfold plainF loose; simp [*])
  have mb10 : ((b.toNat : Int) == 10) = true := (isC_beq 10 b 10 rfl).trans hb10
  have nb10 : ((b.toNat : Int) != 10) = false := (isC_bne 10 b 10 rfl).trans (by rw [hb10]; rfl)
  have ma10 : ((a.toNat : Int) == 10) = false := (isC_beq 10 a 10 rfl).trans ha10
  have na10 : ((a.toNat : Int) != 10) = true := (isC_bne 10 a 10 rfl).trans (by rw [ha10]; rfl)
  have ma32 : ((a.toNat : Int) == 32) = true := (isC_beq 32 a 32 rfl).trans ha32
  have na32 : ((a.toNat : Int) != 32) = false := (isC_bne 32 a 32 rfl).trans (by rw [ha32]; rfl)
  have mc32 : ((c.toNat : Int) == 32) = false := (isC_beq 32 c 32 rfl).trans hc32
  have nc32 : ((c.toNat : Int) != 32) = true := (isC_bne 32 c 32 rfl).trans (by rw [hc32]; rfl)
  have mc45 : ((c.toNat : Int) == 45) = false := (isC_beq 45 c 45 rfl).trans hc45
  have nc45 : ((c.toNat : Int) != 45) = true := (isC_bne 45 c 45 rfl).trans (by rw [hc45]; rfl)
  have mc58 : ((c.toNat : Int) == 58) = false := (isC_beq 58 c 58 rfl).trans hc58
  have nc58 : ((c.toNat : Int) != 58) = true := (isC_bne 58 c 58 rfl).trans (by rw [hc58]; rfl)
  have mc35 : ((c.toNat : Int) == 35) = true := (isC_beq 35 c 35 rfl).trans hc35
  have nc35 : ((c.toNat : Int) != 35) = false := (isC_bne 35 c 35 rfl).trans (by rw [hc35]; rfl)
  have nb32 : ((b.toNat : Int) != 32) = !isC 32 b := isC_bne 32 b 32 rfl
  clear hb10 ha10 ha32 hc32 hc45 hc58 hc35
  go_enter Tryz.func52, Tryz.ntmps52
  go_wp2_with (first | (go_at_call 53; refine (has_first _ _).mono ?_; rintro e w' ⟨rfl, rfl⟩))
  go_ret
  exact ⟨ret_b H.out.symm, rfl⟩
theorem p1_b_a32_k (b c a : UInt8) (w : World) (hb10 : isC 10 b = true) (hf : has firsts c = false) (ha10 : isC 10 a = false) (ha32 : isC 32 a = true) (hc32 : isC 32 c = false) (hc45 : isC 45 c = false) (hc58 : isC 58 c = false) (hc35 : isC 35 c = false) :
    Calls Tryz.prog 52 #[.int .u8 b.toNat, .int .u8 c.toNat, .int .u8 a.toNat] w fun e w' => e = .returned (.bool (plainF b c a)) ∧ w = w' := by
  have H : Hid (plainF b c a = good c) := Lib.hid (by unfold plainF loose; simp [*])
  have mb10 : ((b.toNat : Int) == 10) = true := (isC_beq 10 b 10 rfl).trans hb10
  have nb10 : ((b.toNat : Int) != 10) = false := (isC_bne 10 b 10 rfl).trans (by rw [hb10]; rfl)
  have ma10 : ((a.toNat : Int) == 10) = false := (isC_beq 10 a 10 rfl).trans ha10
  have na10 : ((a.toNat : Int) != 10) = true := (isC_bne 10 a 10 rfl).trans (by rw [ha10]; rfl)
  have ma32 : ((a.toNat : Int) == 32) = true := (isC_beq 32 a 32 rfl).trans ha32
  have na32 : ((a.toNat : Int) != 32) = false := (isC_bne 32 a 32 rfl).trans (by rw [ha32]; rfl)
  have mc32 : ((c.toNat : Int) == 32) = false := (isC_beq 32 c 32 rfl).trans hc32
  have nc32 : ((c.toNat : Int) != 32) = true := (isC_bne 32 c 32 rfl).trans (by rw [hc32]; rfl)
  have mc45 : ((c.toNat : Int) == 45) = false := (isC_beq 45 c 45 rfl).trans hc45
  have nc45 : ((c.toNat : Int) != 45) = true := (isC_bne 45 c 45 rfl).trans (by rw [hc45]; rfl)
  have mc58 : ((c.toNat : Int) == 58) = false := (isC_beq 58 c 58 rfl).trans hc58
  have nc58 : ((c.toNat : Int) != 58) = true := (isC_bne 58 c 58 rfl).trans (by rw [hc58]; rfl)
  have mc35 : ((c.toNat : Int) == 35) = false := (isC_beq 35 c 35 rfl).trans hc35
  have nc35 : ((c.toNat : Int) != 35) = true := (isC_bne 35 c 35 rfl).trans (by rw [hc35]; rfl)
  clear hb10 ha10 ha32 hc32 hc45 hc58 hc35
  go_enter Tryz.func52, Tryz.ntmps52
  go_wp2_with (first | (go_at_call 53; refine (has_first _ _).mono ?_; rintro e w' ⟨rfl, rfl⟩) | (go_at_call 54; refine (printable_any _ _).mono ?_; rintro e w' ⟨rfl, rfl⟩))
  go_ret
  exact ⟨ret_b H.out.symm, rfl⟩
theorem p1_b_ax_k32 (b c a : UInt8) (w : World) (hb10 : isC 10 b = true) (hf : has firsts c = false) (ha10 : isC 10 a = false) (ha32 : isC 32 a = false) (hc32 : isC 32 c = true) (hc45 : isC 45 c = false) (hc58 : isC 58 c = false) (hc35 : isC 35 c = false) :
    Calls Tryz.prog 52 #[.int .u8 b.toNat, .int .u8 c.toNat, .int .u8 a.toNat] w fun e w' => e = .returned (.bool (plainF b c a)) ∧ w = w' := by
  have H : Hid (plainF b c a = false) := Lib.hid (by unfold plainF loose; simp [*])
  have mb10 : ((b.toNat : Int) == 10) = true := (isC_beq 10 b 10 rfl).trans hb10
  have nb10 : ((b.toNat : Int) != 10) = false := (isC_bne 10 b 10 rfl).trans (by rw [hb10]; rfl)
  have ma10 : ((a.toNat : Int) == 10) = false := (isC_beq 10 a 10 rfl).trans ha10
  have na10 : ((a.toNat : Int) != 10) = true := (isC_bne 10 a 10 rfl).trans (by rw [ha10]; rfl)
  have ma32 : ((a.toNat : Int) == 32) = false := (isC_beq 32 a 32 rfl).trans ha32
  have na32 : ((a.toNat : Int) != 32) = true := (isC_bne 32 a 32 rfl).trans (by rw [ha32]; rfl)
  have mc32 : ((c.toNat : Int) == 32) = true := (isC_beq 32 c 32 rfl).trans hc32
  have nc32 : ((c.toNat : Int) != 32) = false := (isC_bne 32 c 32 rfl).trans (by rw [hc32]; rfl)
  have mc45 : ((c.toNat : Int) == 45) = false := (isC_beq 45 c 45 rfl).trans hc45
  have nc45 : ((c.toNat : Int) != 45) = true := (isC_bne 45 c 45 rfl).trans (by rw [hc45]; rfl)
  have mc58 : ((c.toNat : Int) == 58) = false := (isC_beq 58 c 58 rfl).trans hc58
  have nc58 : ((c.toNat : Int) != 58) = true := (isC_bne 58 c 58 rfl).trans (by rw [hc58]; rfl)
  have mc35 : ((c.toNat : Int) == 35) = false := (isC_beq 35 c 35 rfl).trans hc35
  have nc35 : ((c.toNat : Int) != 35) = true := (isC_bne 35 c 35 rfl).trans (by rw [hc35]; rfl)
  clear hb10 ha10 ha32 hc32 hc45 hc58 hc35
  go_enter Tryz.func52, Tryz.ntmps52
  go_wp2_with (first | (go_at_call 53; refine (has_first _ _).mono ?_; rintro e w' ⟨rfl, rfl⟩))
  go_ret
  exact ⟨ret_b H.out.symm, rfl⟩
theorem p1_b_ax_k45 (b c a : UInt8) (w : World) (hb10 : isC 10 b = true) (hf : has firsts c = false) (ha10 : isC 10 a = false) (ha32 : isC 32 a = false) (hc32 : isC 32 c = false) (hc45 : isC 45 c = true) (hc58 : isC 58 c = false) (hc35 : isC 35 c = false) :
    Calls Tryz.prog 52 #[.int .u8 b.toNat, .int .u8 c.toNat, .int .u8 a.toNat] w fun e w' => e = .returned (.bool (plainF b c a)) ∧ w = w' := by
  have H : Hid (plainF b c a = true) := Lib.hid (by unfold plainF loose; simp [*])
  have mb10 : ((b.toNat : Int) == 10) = true := (isC_beq 10 b 10 rfl).trans hb10
  have nb10 : ((b.toNat : Int) != 10) = false := (isC_bne 10 b 10 rfl).trans (by rw [hb10]; rfl)
  have ma10 : ((a.toNat : Int) == 10) = false := (isC_beq 10 a 10 rfl).trans ha10
  have na10 : ((a.toNat : Int) != 10) = true := (isC_bne 10 a 10 rfl).trans (by rw [ha10]; rfl)
  have ma32 : ((a.toNat : Int) == 32) = false := (isC_beq 32 a 32 rfl).trans ha32
  have na32 : ((a.toNat : Int) != 32) = true := (isC_bne 32 a 32 rfl).trans (by rw [ha32]; rfl)
  have mc32 : ((c.toNat : Int) == 32) = false := (isC_beq 32 c 32 rfl).trans hc32
  have nc32 : ((c.toNat : Int) != 32) = true := (isC_bne 32 c 32 rfl).trans (by rw [hc32]; rfl)
  have mc45 : ((c.toNat : Int) == 45) = true := (isC_beq 45 c 45 rfl).trans hc45
  have nc45 : ((c.toNat : Int) != 45) = false := (isC_bne 45 c 45 rfl).trans (by rw [hc45]; rfl)
  have mc58 : ((c.toNat : Int) == 58) = false := (isC_beq 58 c 58 rfl).trans hc58
  have nc58 : ((c.toNat : Int) != 58) = true := (isC_bne 58 c 58 rfl).trans (by rw [hc58]; rfl)
  have mc35 : ((c.toNat : Int) == 35) = false := (isC_beq 35 c 35 rfl).trans hc35
  have nc35 : ((c.toNat : Int) != 35) = true := (isC_bne 35 c 35 rfl).trans (by rw [hc35]; rfl)
  clear hb10 ha10 ha32 hc32 hc45 hc58 hc35
  go_enter Tryz.func52, Tryz.ntmps52
  go_wp2_with (first | (go_at_call 53; refine (has_first _ _).mono ?_; rintro e w' ⟨rfl, rfl⟩))
  go_ret
  exact ⟨ret_b H.out.symm, rfl⟩
theorem p1_b_ax_k58 (b c a : UInt8) (w : World) (hb10 : isC 10 b = true) (hf : has firsts c = false) (ha10 : isC 10 a = false) (ha32 : isC 32 a = false) (hc32 : isC 32 c = false) (hc45 : isC 45 c = false) (hc58 : isC 58 c = true) (hc35 : isC 35 c = false) :
    Calls Tryz.prog 52 #[.int .u8 b.toNat, .int .u8 c.toNat, .int .u8 a.toNat] w fun e w' => e = .returned (.bool (plainF b c a)) ∧ w = w' := by
  have H : Hid (plainF b c a = true) := Lib.hid (by unfold plainF loose; simp [*])
  have mb10 : ((b.toNat : Int) == 10) = true := (isC_beq 10 b 10 rfl).trans hb10
  have nb10 : ((b.toNat : Int) != 10) = false := (isC_bne 10 b 10 rfl).trans (by rw [hb10]; rfl)
  have ma10 : ((a.toNat : Int) == 10) = false := (isC_beq 10 a 10 rfl).trans ha10
  have na10 : ((a.toNat : Int) != 10) = true := (isC_bne 10 a 10 rfl).trans (by rw [ha10]; rfl)
  have ma32 : ((a.toNat : Int) == 32) = false := (isC_beq 32 a 32 rfl).trans ha32
  have na32 : ((a.toNat : Int) != 32) = true := (isC_bne 32 a 32 rfl).trans (by rw [ha32]; rfl)
  have mc32 : ((c.toNat : Int) == 32) = false := (isC_beq 32 c 32 rfl).trans hc32
  have nc32 : ((c.toNat : Int) != 32) = true := (isC_bne 32 c 32 rfl).trans (by rw [hc32]; rfl)
  have mc45 : ((c.toNat : Int) == 45) = false := (isC_beq 45 c 45 rfl).trans hc45
  have nc45 : ((c.toNat : Int) != 45) = true := (isC_bne 45 c 45 rfl).trans (by rw [hc45]; rfl)
  have mc58 : ((c.toNat : Int) == 58) = true := (isC_beq 58 c 58 rfl).trans hc58
  have nc58 : ((c.toNat : Int) != 58) = false := (isC_bne 58 c 58 rfl).trans (by rw [hc58]; rfl)
  have mc35 : ((c.toNat : Int) == 35) = false := (isC_beq 35 c 35 rfl).trans hc35
  have nc35 : ((c.toNat : Int) != 35) = true := (isC_bne 35 c 35 rfl).trans (by rw [hc35]; rfl)
  clear hb10 ha10 ha32 hc32 hc45 hc58 hc35
  go_enter Tryz.func52, Tryz.ntmps52
  go_wp2_with (first | (go_at_call 53; refine (has_first _ _).mono ?_; rintro e w' ⟨rfl, rfl⟩))
  go_ret
  exact ⟨ret_b H.out.symm, rfl⟩
theorem p1_b_ax_k35 (b c a : UInt8) (w : World) (hb10 : isC 10 b = true) (hf : has firsts c = false) (ha10 : isC 10 a = false) (ha32 : isC 32 a = false) (hc32 : isC 32 c = false) (hc45 : isC 45 c = false) (hc58 : isC 58 c = false) (hc35 : isC 35 c = true) :
    Calls Tryz.prog 52 #[.int .u8 b.toNat, .int .u8 c.toNat, .int .u8 a.toNat] w fun e w' => e = .returned (.bool (plainF b c a)) ∧ w = w' := by
  have H : Hid (plainF b c a = !isC 32 b) := Lib.hid (by unfold plainF loose; simp [*])
  have mb10 : ((b.toNat : Int) == 10) = true := (isC_beq 10 b 10 rfl).trans hb10
  have nb10 : ((b.toNat : Int) != 10) = false := (isC_bne 10 b 10 rfl).trans (by rw [hb10]; rfl)
  have ma10 : ((a.toNat : Int) == 10) = false := (isC_beq 10 a 10 rfl).trans ha10
  have na10 : ((a.toNat : Int) != 10) = true := (isC_bne 10 a 10 rfl).trans (by rw [ha10]; rfl)
  have ma32 : ((a.toNat : Int) == 32) = false := (isC_beq 32 a 32 rfl).trans ha32
  have na32 : ((a.toNat : Int) != 32) = true := (isC_bne 32 a 32 rfl).trans (by rw [ha32]; rfl)
  have mc32 : ((c.toNat : Int) == 32) = false := (isC_beq 32 c 32 rfl).trans hc32
  have nc32 : ((c.toNat : Int) != 32) = true := (isC_bne 32 c 32 rfl).trans (by rw [hc32]; rfl)
  have mc45 : ((c.toNat : Int) == 45) = false := (isC_beq 45 c 45 rfl).trans hc45
  have nc45 : ((c.toNat : Int) != 45) = true := (isC_bne 45 c 45 rfl).trans (by rw [hc45]; rfl)
  have mc58 : ((c.toNat : Int) == 58) = false := (isC_beq 58 c 58 rfl).trans hc58
  have nc58 : ((c.toNat : Int) != 58) = true := (isC_bne 58 c 58 rfl).trans (by rw [hc58]; rfl)
  have mc35 : ((c.toNat : Int) == 35) = true := (isC_beq 35 c 35 rfl).trans hc35
  have nc35 : ((c.toNat : Int) != 35) = false := (isC_bne 35 c 35 rfl).trans (by rw [hc35]; rfl)
  have nb32 : ((b.toNat : Int) != 32) = !isC 32 b := isC_bne 32 b 32 rfl
  clear hb10 ha10 ha32 hc32 hc45 hc58 hc35
  go_enter Tryz.func52, Tryz.ntmps52
  go_wp2_with (first | (go_at_call 53; refine (has_first _ _).mono ?_; rintro e w' ⟨rfl, rfl⟩))
  go_ret
  exact ⟨ret_b H.out.symm, rfl⟩
theorem p1_b_ax_k (b c a : UInt8) (w : World) (hb10 : isC 10 b = true) (hf : has firsts c = false) (ha10 : isC 10 a = false) (ha32 : isC 32 a = false) (hc32 : isC 32 c = false) (hc45 : isC 45 c = false) (hc58 : isC 58 c = false) (hc35 : isC 35 c = false) :
    Calls Tryz.prog 52 #[.int .u8 b.toNat, .int .u8 c.toNat, .int .u8 a.toNat] w fun e w' => e = .returned (.bool (plainF b c a)) ∧ w = w' := by
  have H : Hid (plainF b c a = good c) := Lib.hid (by unfold plainF loose; simp [*])
  have mb10 : ((b.toNat : Int) == 10) = true := (isC_beq 10 b 10 rfl).trans hb10
  have nb10 : ((b.toNat : Int) != 10) = false := (isC_bne 10 b 10 rfl).trans (by rw [hb10]; rfl)
  have ma10 : ((a.toNat : Int) == 10) = false := (isC_beq 10 a 10 rfl).trans ha10
  have na10 : ((a.toNat : Int) != 10) = true := (isC_bne 10 a 10 rfl).trans (by rw [ha10]; rfl)
  have ma32 : ((a.toNat : Int) == 32) = false := (isC_beq 32 a 32 rfl).trans ha32
  have na32 : ((a.toNat : Int) != 32) = true := (isC_bne 32 a 32 rfl).trans (by rw [ha32]; rfl)
  have mc32 : ((c.toNat : Int) == 32) = false := (isC_beq 32 c 32 rfl).trans hc32
  have nc32 : ((c.toNat : Int) != 32) = true := (isC_bne 32 c 32 rfl).trans (by rw [hc32]; rfl)
  have mc45 : ((c.toNat : Int) == 45) = false := (isC_beq 45 c 45 rfl).trans hc45
  have nc45 : ((c.toNat : Int) != 45) = true := (isC_bne 45 c 45 rfl).trans (by rw [hc45]; rfl)
  have mc58 : ((c.toNat : Int) == 58) = false := (isC_beq 58 c 58 rfl).trans hc58
  have nc58 : ((c.toNat : Int) != 58) = true := (isC_bne 58 c 58 rfl).trans (by rw [hc58]; rfl)
  have mc35 : ((c.toNat : Int) == 35) = false := (isC_beq 35 c 35 rfl).trans hc35
  have nc35 : ((c.toNat : Int) != 35) = true := (isC_bne 35 c 35 rfl).trans (by rw [hc35]; rfl)
  clear hb10 ha10 ha32 hc32 hc45 hc58 hc35
  go_enter Tryz.func52, Tryz.ntmps52
  go_wp2_with (first | (go_at_call 53; refine (has_first _ _).mono ?_; rintro e w' ⟨rfl, rfl⟩) | (go_at_call 54; refine (printable_any _ _).mono ?_; rintro e w' ⟨rfl, rfl⟩))
  go_ret
  exact ⟨ret_b H.out.symm, rfl⟩
theorem p1_n_a10_k32 (b c a : UInt8) (w : World) (hb10 : isC 10 b = false) (ha10 : isC 10 a = true) (ha32 : isC 32 a = false) (hc32 : isC 32 c = true) (hc45 : isC 45 c = false) (hc58 : isC 58 c = false) (hc35 : isC 35 c = false) :
    Calls Tryz.prog 52 #[.int .u8 b.toNat, .int .u8 c.toNat, .int .u8 a.toNat] w fun e w' => e = .returned (.bool (plainF b c a)) ∧ w = w' := by
  have H : Hid (plainF b c a = false) := Lib.hid (by unfold plainF loose; simp [*])
  have mb10 : ((b.toNat : Int) == 10) = false := (isC_beq 10 b 10 rfl).trans hb10
  have nb10 : ((b.toNat : Int) != 10) = true := (isC_bne 10 b 10 rfl).trans (by rw [hb10]; rfl)
  have ma10 : ((a.toNat : Int) == 10) = true := (isC_beq 10 a 10 rfl).trans ha10
  have na10 : ((a.toNat : Int) != 10) = false := (isC_bne 10 a 10 rfl).trans (by rw [ha10]; rfl)
  have ma32 : ((a.toNat : Int) == 32) = false := (isC_beq 32 a 32 rfl).trans ha32
  have na32 : ((a.toNat : Int) != 32) = true := (isC_bne 32 a 32 rfl).trans (by rw [ha32]; rfl)
  have mc32 : ((c.toNat : Int) == 32) = true := (isC_beq 32 c 32 rfl).trans hc32
  have nc32 : ((c.toNat : Int) != 32) = false := (isC_bne 32 c 32 rfl).trans (by rw [hc32]; rfl)
  have mc45 : ((c.toNat : Int) == 45) = false := (isC_beq 45 c 45 rfl).trans hc45
  have nc45 : ((c.toNat : Int) != 45) = true := (isC_bne 45 c 45 rfl).trans (by rw [hc45]; rfl)
  have mc58 : ((c.toNat : Int) == 58) = false := (isC_beq 58 c 58 rfl).trans hc58
  have nc58 : ((c.toNat : Int) != 58) = true := (isC_bne 58 c 58 rfl).trans (by rw [hc58]; rfl)
  have mc35 : ((c.toNat : Int) == 35) = false := (isC_beq 35 c 35 rfl).trans hc35
  have nc35 : ((c.toNat : Int) != 35) = true := (isC_bne 35 c 35 rfl).trans (by rw [hc35]; rfl)
  clear hb10 ha10 ha32 hc32 hc45 hc58 hc35
  go_enter Tryz.func52, Tryz.ntmps52
  go_wp2
  go_ret
  exact ⟨ret_b H.out.symm, rfl⟩
theorem p1_n_a10_k45 (b c a : UInt8) (w : World) (hb10 : isC 10 b = false) (ha10 : isC 10 a = true) (ha32 : isC 32 a = false) (hc32 : isC 32 c = false) (hc45 : isC 45 c = true) (hc58 : isC 58 c = false) (hc35 : isC 35 c = false) :
    Calls Tryz.prog 52 #[.int .u8 b.toNat, .int .u8 c.toNat, .int .u8 a.toNat] w fun e w' => e = .returned (.bool (plainF b c a)) ∧ w = w' := by
  have H : Hid (plainF b c a = true) := Lib.hid (by unfold plainF loose; simp [*])
  have mb10 : ((b.toNat : Int) == 10) = false := (isC_beq 10 b 10 rfl).trans hb10
  have nb10 : ((b.toNat : Int) != 10) = true := (isC_bne 10 b 10 rfl).trans (by rw [hb10]; rfl)
  have ma10 : ((a.toNat : Int) == 10) = true := (isC_beq 10 a 10 rfl).trans ha10
  have na10 : ((a.toNat : Int) != 10) = false := (isC_bne 10 a 10 rfl).trans (by rw [ha10]; rfl)
  have ma32 : ((a.toNat : Int) == 32) = false := (isC_beq 32 a 32 rfl).trans ha32
  have na32 : ((a.toNat : Int) != 32) = true := (isC_bne 32 a 32 rfl).trans (by rw [ha32]; rfl)
  have mc32 : ((c.toNat : Int) == 32) = false := (isC_beq 32 c 32 rfl).trans hc32
  have nc32 : ((c.toNat : Int) != 32) = true := (isC_bne 32 c 32 rfl).trans (by rw [hc32]; rfl)
  have mc45 : ((c.toNat : Int) == 45) = true := (isC_beq 45 c 45 rfl).trans hc45
  have nc45 : ((c.toNat : Int) != 45) = false := (isC_bne 45 c 45 rfl).trans (by rw [hc45]; rfl)
  have mc58 : ((c.toNat : Int) == 58) = false := (isC_beq 58 c 58 rfl).trans hc58
  have nc58 : ((c.toNat : Int) != 58) = true := (isC_bne 58 c 58 rfl).trans (by rw [hc58]; rfl)
  have mc35 : ((c.toNat : Int) == 35) = false := (isC_beq 35 c 35 rfl).trans hc35
  have nc35 : ((c.toNat : Int) != 35) = true := (isC_bne 35 c 35 rfl).trans (by rw [hc35]; rfl)
  clear hb10 ha10 ha32 hc32 hc45 hc58 hc35
  go_enter Tryz.func52, Tryz.ntmps52
  go_wp2
  go_ret
  exact ⟨ret_b H.out.symm, rfl⟩
theorem p1_n_a10_k58 (b c a : UInt8) (w : World) (hb10 : isC 10 b = false) (ha10 : isC 10 a = true) (ha32 : isC 32 a = false) (hc32 : isC 32 c = false) (hc45 : isC 45 c = false) (hc58 : isC 58 c = true) (hc35 : isC 35 c = false) :
    Calls Tryz.prog 52 #[.int .u8 b.toNat, .int .u8 c.toNat, .int .u8 a.toNat] w fun e w' => e = .returned (.bool (plainF b c a)) ∧ w = w' := by
  have H : Hid (plainF b c a = false) := Lib.hid (by unfold plainF loose; simp [*])
  have mb10 : ((b.toNat : Int) == 10) = false := (isC_beq 10 b 10 rfl).trans hb10
  have nb10 : ((b.toNat : Int) != 10) = true := (isC_bne 10 b 10 rfl).trans (by rw [hb10]; rfl)
  have ma10 : ((a.toNat : Int) == 10) = true := (isC_beq 10 a 10 rfl).trans ha10
  have na10 : ((a.toNat : Int) != 10) = false := (isC_bne 10 a 10 rfl).trans (by rw [ha10]; rfl)
  have ma32 : ((a.toNat : Int) == 32) = false := (isC_beq 32 a 32 rfl).trans ha32
  have na32 : ((a.toNat : Int) != 32) = true := (isC_bne 32 a 32 rfl).trans (by rw [ha32]; rfl)
  have mc32 : ((c.toNat : Int) == 32) = false := (isC_beq 32 c 32 rfl).trans hc32
  have nc32 : ((c.toNat : Int) != 32) = true := (isC_bne 32 c 32 rfl).trans (by rw [hc32]; rfl)
  have mc45 : ((c.toNat : Int) == 45) = false := (isC_beq 45 c 45 rfl).trans hc45
  have nc45 : ((c.toNat : Int) != 45) = true := (isC_bne 45 c 45 rfl).trans (by rw [hc45]; rfl)
  have mc58 : ((c.toNat : Int) == 58) = true := (isC_beq 58 c 58 rfl).trans hc58
  have nc58 : ((c.toNat : Int) != 58) = false := (isC_bne 58 c 58 rfl).trans (by rw [hc58]; rfl)
  have mc35 : ((c.toNat : Int) == 35) = false := (isC_beq 35 c 35 rfl).trans hc35
  have nc35 : ((c.toNat : Int) != 35) = true := (isC_bne 35 c 35 rfl).trans (by rw [hc35]; rfl)
  clear hb10 ha10 ha32 hc32 hc45 hc58 hc35
  go_enter Tryz.func52, Tryz.ntmps52
  go_wp2
  go_ret
  exact ⟨ret_b H.out.symm, rfl⟩
theorem p1_n_a10_k35 (b c a : UInt8) (w : World) (hb10 : isC 10 b = false) (ha10 : isC 10 a = true) (ha32 : isC 32 a = false) (hc32 : isC 32 c = false) (hc45 : isC 45 c = false) (hc58 : isC 58 c = false) (hc35 : isC 35 c = true) :
    Calls Tryz.prog 52 #[.int .u8 b.toNat, .int .u8 c.toNat, .int .u8 a.toNat] w fun e w' => e = .returned (.bool (plainF b c a)) ∧ w = w' := by
  have H : Hid (plainF b c a = !isC 32 b) := Lib.hid (by unfold plainF loose; simp [*])
  have mb10 : ((b.toNat : Int) == 10) = false := (isC_beq 10 b 10 rfl).trans hb10
  have nb10 : ((b.toNat : Int) != 10) = true := (isC_bne 10 b 10 rfl).trans (by rw [hb10]; rfl)
  have ma10 : ((a.toNat : Int) == 10) = true := (isC_beq 10 a 10 rfl).trans ha10
  have na10 : ((a.toNat : Int) != 10) = false := (isC_bne 10 a 10 rfl).trans (by rw [ha10]; rfl)
  have ma32 : ((a.toNat : Int) == 32) = false := (isC_beq 32 a 32 rfl).trans ha32
  have na32 : ((a.toNat : Int) != 32) = true := (isC_bne 32 a 32 rfl).trans (by rw [ha32]; rfl)
  have mc32 : ((c.toNat : Int) == 32) = false := (isC_beq 32 c 32 rfl).trans hc32
  have nc32 : ((c.toNat : Int) != 32) = true := (isC_bne 32 c 32 rfl).trans (by rw [hc32]; rfl)
  have mc45 : ((c.toNat : Int) == 45) = false := (isC_beq 45 c 45 rfl).trans hc45
  have nc45 : ((c.toNat : Int) != 45) = true := (isC_bne 45 c 45 rfl).trans (by rw [hc45]; rfl)
  have mc58 : ((c.toNat : Int) == 58) = false := (isC_beq 58 c 58 rfl).trans hc58
  have nc58 : ((c.toNat : Int) != 58) = true := (isC_bne 58 c 58 rfl).trans (by rw [hc58]; rfl)
  have mc35 : ((c.toNat : Int) == 35) = true := (isC_beq 35 c 35 rfl).trans hc35
  have nc35 : ((c.toNat : Int) != 35) = false := (isC_bne 35 c 35 rfl).trans (by rw [hc35]; rfl)
  have nb32 : ((b.toNat : Int) != 32) = !isC 32 b := isC_bne 32 b 32 rfl
  clear hb10 ha10 ha32 hc32 hc45 hc58 hc35
  go_enter Tryz.func52, Tryz.ntmps52
  go_wp2
  go_ret
  exact ⟨ret_b H.out.symm, rfl⟩
theorem p1_n_a10_k (b c a : UInt8) (w : World) (hb10 : isC 10 b = false) (ha10 : isC 10 a = true) (ha32 : isC 32 a = false) (hc32 : isC 32 c = false) (hc45 : isC 45 c = false) (hc58 : isC 58 c = false) (hc35 : isC 35 c = false) :
    Calls Tryz.prog 52 #[.int .u8 b.toNat, .int .u8 c.toNat, .int .u8 a.toNat] w fun e w' => e = .returned (.bool (plainF b c a)) ∧ w = w' := by
  have H : Hid (plainF b c a = good c) := Lib.hid (by unfold plainF loose; simp [*])
  have mb10 : ((b.toNat : Int) == 10) = false := (isC_beq 10 b 10 rfl).trans hb10
  have nb10 : ((b.toNat : Int) != 10) = true := (isC_bne 10 b 10 rfl).trans (by rw [hb10]; rfl)
  have ma10 : ((a.toNat : Int) == 10) = true := (isC_beq 10 a 10 rfl).trans ha10
  have na10 : ((a.toNat : Int) != 10) = false := (isC_bne 10 a 10 rfl).trans (by rw [ha10]; rfl)
  have ma32 : ((a.toNat : Int) == 32) = false := (isC_beq 32 a 32 rfl).trans ha32
  have na32 : ((a.toNat : Int) != 32) = true := (isC_bne 32 a 32 rfl).trans (by rw [ha32]; rfl)
  have mc32 : ((c.toNat : Int) == 32) = false := (isC_beq 32 c 32 rfl).trans hc32
  have nc32 : ((c.toNat : Int) != 32) = true := (isC_bne 32 c 32 rfl).trans (by rw [hc32]; rfl)
  have mc45 : ((c.toNat : Int) == 45) = false := (isC_beq 45 c 45 rfl).trans hc45
  have nc45 : ((c.toNat : Int) != 45) = true := (isC_bne 45 c 45 rfl).trans (by rw [hc45]; rfl)
  have mc58 : ((c.toNat : Int) == 58) = false := (isC_beq 58 c 58 rfl).trans hc58
  have nc58 : ((c.toNat : Int) != 58) = true := (isC_bne 58 c 58 rfl).trans (by rw [hc58]; rfl)
  have mc35 : ((c.toNat : Int) == 35) = false := (isC_beq 35 c 35 rfl).trans hc35
  have nc35 : ((c.toNat : Int) != 35) = true := (isC_bne 35 c 35 rfl).trans (by rw [hc35]; rfl)
  clear hb10 ha10 ha32 hc32 hc45 hc58 hc35
  go_enter Tryz.func52, Tryz.ntmps52
  go_wp2_with (first | (go_at_call 54; refine (printable_any _ _).mono ?_; rintro e w' ⟨rfl, rfl⟩))
  go_ret
  exact ⟨ret_b H.out.symm, rfl⟩
theorem p1_n_a32_k32 (b c a : UInt8) (w : World) (hb10 : isC 10 b = false) (ha10 : isC 10 a = false) (ha32 : isC 32 a = true) (hc32 : isC 32 c = true) (hc45 : isC 45 c = false) (hc58 : isC 58 c = false) (hc35 : isC 35 c = false) :
    Calls Tryz.prog 52 #[.int .u8 b.toNat, .int .u8 c.toNat, .int .u8 a.toNat] w fun e w' => e = .returned (.bool (plainF b c a)) ∧ w = w' := by
  have H : Hid (plainF b c a = true) := Lib.hid (by unfold plainF loose; simp [*])
  have mb10 : ((b.toNat : Int) == 10) = false := (isC_beq 10 b 10 rfl).trans hb10
  have nb10 : ((b.toNat : Int) != 10) = true := (isC_bne 10 b 10 rfl).trans (by rw [hb10]; rfl)
  have ma10 : ((a.toNat : Int) == 10) = false := (isC_beq 10 a 10 rfl).trans ha10
  have na10 : ((a.toNat : Int) != 10) = true := (isC_bne 10 a 10 rfl).trans (by rw [ha10]; rfl)
  have ma32 : ((a.toNat : Int) == 32) = true := (isC_beq 32 a 32 rfl).trans ha32
  have na32 : ((a.toNat : Int) != 32) = false := (isC_bne 32 a 32 rfl).trans (by rw [ha32]; rfl)
  have mc32 : ((c.toNat : Int) == 32) = true := (isC_beq 32 c 32 rfl).trans hc32
  have nc32 : ((c.toNat : Int) != 32) = false := (isC_bne 32 c 32 rfl).trans (by rw [hc32]; rfl)
  have mc45 : ((c.toNat : Int) == 45) = false := (isC_beq 45 c 45 rfl).trans hc45
  have nc45 : ((c.toNat : Int) != 45) = true := (isC_bne 45 c 45 rfl).trans (by rw [hc45]; rfl)
  have mc58 : ((c.toNat : Int) == 58) = false := (isC_beq 58 c 58 rfl).trans hc58
  have nc58 : ((c.toNat : Int) != 58) = true := (isC_bne 58 c 58 rfl).trans (by rw [hc58]; rfl)
  have mc35 : ((c.toNat : Int) == 35) = false := (isC_beq 35 c 35 rfl).trans hc35
  have nc35 : ((c.toNat : Int) != 35) = true := (isC_bne 35 c 35 rfl).trans (by rw [hc35]; rfl)
  clear hb10 ha10 ha32 hc32 hc45 hc58 hc35
  go_enter Tryz.func52, Tryz.ntmps52
  go_wp2
  go_ret
  exact ⟨ret_b H.out.symm, rfl⟩
theorem p1_n_a32_k45 (b c a : UInt8) (w : World) (hb10 : isC 10 b = false) (ha10 : isC 10 a = false) (ha32 : isC 32 a = true) (hc32 : isC 32 c = false) (hc45 : isC 45 c = true) (hc58 : isC 58 c = false) (hc35 : isC 35 c = false) :
    Calls Tryz.prog 52 #[.int .u8 b.toNat, .int .u8 c.toNat, .int .u8 a.toNat] w fun e w' => e = .returned (.bool (plainF b c a)) ∧ w = w' := by
  have H : Hid (plainF b c a = true) := Lib.hid (by unfold plainF loose; simp [*])
  have mb10 : ((b.toNat : Int) == 10) = false := (isC_beq 10 b 10 rfl).trans hb10
  have nb10 : ((b.toNat : Int) != 10) = true := (isC_bne 10 b 10 rfl).trans (by rw [hb10]; rfl)
  have ma10 : ((a.toNat : Int) == 10) = false := (isC_beq 10 a 10 rfl).trans ha10
  have na10 : ((a.toNat : Int) != 10) = true := (isC_bne 10 a 10 rfl).trans (by rw [ha10]; rfl)
  have ma32 : ((a.toNat : Int) == 32) = true := (isC_beq 32 a 32 rfl).trans ha32
  have na32 : ((a.toNat : Int) != 32) = false := (isC_bne 32 a 32 rfl).trans (by rw [ha32]; rfl)
  have mc32 : ((c.toNat : Int) == 32) = false := (isC_beq 32 c 32 rfl).trans hc32
  have nc32 : ((c.toNat : Int) != 32) = true := (isC_bne 32 c 32 rfl).trans (by rw [hc32]; rfl)
  have mc45 : ((c.toNat : Int) == 45) = true := (isC_beq 45 c 45 rfl).trans hc45
  have nc45 : ((c.toNat : Int) != 45) = false := (isC_bne 45 c 45 rfl).trans (by rw [hc45]; rfl)
  have mc58 : ((c.toNat : Int) == 58) = false := (isC_beq 58 c 58 rfl).trans hc58
  have nc58 : ((c.toNat : Int) != 58) = true := (isC_bne 58 c 58 rfl).trans (by rw [hc58]; rfl)
  have mc35 : ((c.toNat : Int) == 35) = false := (isC_beq 35 c 35 rfl).trans hc35
  have nc35 : ((c.toNat : Int) != 35) = true := (isC_bne 35 c 35 rfl).trans (by rw [hc35]; rfl)
  clear hb10 ha10 ha32 hc32 hc45 hc58 hc35
  go_enter Tryz.func52, Tryz.ntmps52
  go_wp2
  go_ret
  exact ⟨ret_b H.out.symm, rfl⟩
theorem p1_n_a32_k58 (b c a : UInt8) (w : World) (hb10 : isC 10 b = false) (ha10 : isC 10 a = false) (ha32 : isC 32 a = true) (hc32 : isC 32 c = false) (hc45 : isC 45 c = false) (hc58 : isC 58 c = true) (hc35 : isC 35 c = false) :
    Calls Tryz.prog 52 #[.int .u8 b.toNat, .int .u8 c.toNat, .int .u8 a.toNat] w fun e w' => e = .returned (.bool (plainF b c a)) ∧ w = w' := by
  have H : Hid (plainF b c a = false) := Lib.hid (by unfold plainF loose; simp [*])
  have mb10 : ((b.toNat : Int) == 10) = false := (isC_beq 10 b 10 rfl).trans hb10
  have nb10 : ((b.toNat : Int) != 10) = true := (isC_bne 10 b 10 rfl).trans (by rw [hb10]; rfl)
  have ma10 : ((a.toNat : Int) == 10) = false := (isC_beq 10 a 10 rfl).trans ha10
  have na10 : ((a.toNat : Int) != 10) = true := (isC_bne 10 a 10 rfl).trans (by rw [ha10]; rfl)
  have ma32 : ((a.toNat : Int) == 32) = true := (isC_beq 32 a 32 rfl).trans ha32
  have na32 : ((a.toNat : Int) != 32) = false := (isC_bne 32 a 32 rfl).trans (by rw [ha32]; rfl)
  have mc32 : ((c.toNat : Int) == 32) = false := (isC_beq 32 c 32 rfl).trans hc32
  have nc32 : ((c.toNat : Int) != 32) = true := (isC_bne 32 c 32 rfl).trans (by rw [hc32]; rfl)
  have mc45 : ((c.toNat : Int) == 45) = false := (isC_beq 45 c 45 rfl).trans hc45
  have nc45 : ((c.toNat : Int) != 45) = true := (isC_bne 45 c 45 rfl).trans (by rw [hc45]; rfl)
  have mc58 : ((c.toNat : Int) == 58) = true := (isC_beq 58 c 58 rfl).trans hc58
  have nc58 : ((c.toNat : Int) != 58) = false := (isC_bne 58 c 58 rfl).trans (by rw [hc58]; rfl)
  have mc35 : ((c.toNat : Int) == 35) = false := (isC_beq 35 c 35 rfl).trans hc35
  have nc35 : ((c.toNat : Int) != 35) = true := (isC_bne 35 c 35 rfl).trans (by rw [hc35]; rfl)
  clear hb10 ha10 ha32 hc32 hc45 hc58 hc35
  go_enter Tryz.func52, Tryz.ntmps52
  go_wp2
  go_ret
  exact ⟨ret_b H.out.symm, rfl⟩
theorem p1_n_a32_k35 (b c a : UInt8) (w : World) (hb10 : isC 10 b = false) (ha10 : isC 10 a = false) (ha32 : isC 32 a = true) (hc32 : isC 32 c = false) (hc45 : isC 45 c = false) (hc58 : isC 58 c = false) (hc35 : isC 35 c = true) :
    Calls Tryz.prog 52 #[.int .u8 b.toNat, .int .u8 c.toNat, .int .u8 a.toNat] w fun e w' => e = .returned (.bool (plainF b c a)) ∧ w = w' := by
  have H : Hid (plainF b c a = !isC 32 b) := Lib.hid (by unfold plainF loose; simp [*])
  have mb10 : ((b.toNat : Int) == 10) = false := (isC_beq 10 b 10 rfl).trans hb10
  have nb10 : ((b.toNat : Int) != 10) = true := (isC_bne 10 b 10 rfl).trans (by rw [hb10]; rfl)
  have ma10 : ((a.toNat : Int) == 10) = false := (isC_beq 10 a 10 rfl).trans ha10
  have na10 : ((a.toNat : Int) != 10) = true := (isC_bne 10 a 10 rfl).trans (by rw [ha10]; rfl)
  have ma32 : ((a.toNat : Int) == 32) = true := (isC_beq 32 a 32 rfl).trans ha32
  have na32 : ((a.toNat : Int) != 32) = false := (isC_bne 32 a 32 rfl).trans (by rw [ha32]; rfl)
  have mc32 : ((c.toNat : Int) == 32) = false := (isC_beq 32 c 32 rfl).trans hc32
  have nc32 : ((c.toNat : Int) != 32) = true := (isC_bne 32 c 32 rfl).trans (by rw [hc32]; rfl)
  have mc45 : ((c.toNat : Int) == 45) = false := (isC_beq 45 c 45 rfl).trans hc45
  have nc45 : ((c.toNat : Int) != 45) = true := (isC_bne 45 c 45 rfl).trans (by rw [hc45]; rfl)
  have mc58 : ((c.toNat : Int) == 58) = false := (isC_beq 58 c 58 rfl).trans hc58
  have nc58 : ((c.toNat : Int) != 58) = true := (isC_bne 58 c 58 rfl).trans (by rw [hc58]; rfl)
  have mc35 : ((c.toNat : Int) == 35) = true := (isC_beq 35 c 35 rfl).trans hc35
  have nc35 : ((c.toNat : Int) != 35) = false := (isC_bne 35 c 35 rfl).trans (by rw [hc35]; rfl)
  have nb32 : ((b.toNat : Int) != 32) = !isC 32 b := isC_bne 32 b 32 rfl
  clear hb10 ha10 ha32 hc32 hc45 hc58 hc35
  go_enter Tryz.func52, Tryz.ntmps52
  go_wp2
  go_ret
  exact ⟨ret_b H.out.symm, rfl⟩
theorem p1_n_a32_k (b c a : UInt8) (w : World) (hb10 : isC 10 b = false) (ha10 : isC 10 a = false) (ha32 : isC 32 a = true) (hc32 : isC 32 c = false) (hc45 : isC 45 c = false) (hc58 : isC 58 c = false) (hc35 : isC 35 c = false) :
    Calls Tryz.prog 52 #[.int .u8 b.toNat, .int .u8 c.toNat, .int .u8 a.toNat] w fun e w' => e = .returned (.bool (plainF b c a)) ∧ w = w' := by
  have H : Hid (plainF b c a = good c) := Lib.hid (by unfold plainF loose; simp [*])
  have mb10 : ((b.toNat : Int) == 10) = false := (isC_beq 10 b 10 rfl).trans hb10
  have nb10 : ((b.toNat : Int) != 10) = true := (isC_bne 10 b 10 rfl).trans (by rw [hb10]; rfl)
  have ma10 : ((a.toNat : Int) == 10) = false := (isC_beq 10 a 10 rfl).trans ha10
  have na10 : ((a.toNat : Int) != 10) = true := (isC_bne 10 a 10 rfl).trans (by rw [ha10]; rfl)
  have ma32 : ((a.toNat : Int) == 32) = true := (isC_beq 32 a 32 rfl).trans ha32
  have na32 : ((a.toNat : Int) != 32) = false := (isC_bne 32 a 32 rfl).trans (by rw [ha32]; rfl)
  have mc32 : ((c.toNat : Int) == 32) = false := (isC_beq 32 c 32 rfl).trans hc32
  have nc32 : ((c.toNat : Int) != 32) = true := (isC_bne 32 c 32 rfl).trans (by rw [hc32]; rfl)
  have mc45 : ((c.toNat : Int) == 45) = false := (isC_beq 45 c 45 rfl).trans hc45
  have nc45 : ((c.toNat : Int) != 45) = true := (isC_bne 45 c 45 rfl).trans (by rw [hc45]; rfl)
  have mc58 : ((c.toNat : Int) == 58) = false := (isC_beq 58 c 58 rfl).trans hc58
  have nc58 : ((c.toNat : Int) != 58) = true := (isC_bne 58 c 58 rfl).trans (by rw [hc58]; rfl)
  have mc35 : ((c.toNat : Int) == 35) = false := (isC_beq 35 c 35 rfl).trans hc35
  have nc35 : ((c.toNat : Int) != 35) = true := (isC_bne 35 c 35 rfl).trans (by rw [hc35]; rfl)
  clear hb10 ha10 ha32 hc32 hc45 hc58 hc35
  go_enter Tryz.func52, Tryz.ntmps52
  go_wp2_with (first | (go_at_call 54; refine (printable_any _ _).mono ?_; rintro e w' ⟨rfl, rfl⟩))
  go_ret
  exact ⟨ret_b H.out.symm, rfl⟩
theorem p1_n_ax_k32 (b c a : UInt8) (w : World) (hb10 : isC 10 b = false) (ha10 : isC 10 a = false) (ha32 : isC 32 a = false) (hc32 : isC 32 c = true) (hc45 : isC 45 c = false) (hc58 : isC 58 c = false) (hc35 : isC 35 c = false) :
    Calls Tryz.prog 52 #[.int .u8 b.toNat, .int .u8 c.toNat, .int .u8 a.toNat] w fun e w' => e = .returned (.bool (plainF b c a)) ∧ w = w' := by
  have H : Hid (plainF b c a = true) := Lib.hid (by unfold plainF loose; simp [*])
  have mb10 : ((b.toNat : Int) == 10) = false := (isC_beq 10 b 10 rfl).trans hb10
  have nb10 : ((b.toNat : Int) != 10) = true := (isC_bne 10 b 10 rfl).trans (by rw [hb10]; rfl)
  have ma10 : ((a.toNat : Int) == 10) = false := (isC_beq 10 a 10 rfl).trans ha10
  have na10 : ((a.toNat : Int) != 10) = true := (isC_bne 10 a 10 rfl).trans (by rw [ha10]; rfl)
  have ma32 : ((a.toNat : Int) == 32) = false := (isC_beq 32 a 32 rfl).trans ha32
  have na32 : ((a.toNat : Int) != 32) = true := (isC_bne 32 a 32 rfl).trans (by rw [ha32]; rfl)
  have mc32 : ((c.toNat : Int) == 32) = true := (isC_beq 32 c 32 rfl).trans hc32
  have nc32 : ((c.toNat : Int) != 32) = false := (isC_bne 32 c 32 rfl).trans (by rw [hc32]; rfl)
  have mc45 : ((c.toNat : Int) == 45) = false := (isC_beq 45 c 45 rfl).trans hc45
  have nc45 : ((c.toNat : Int) != 45) = true := (isC_bne 45 c 45 rfl).trans (by rw [hc45]; rfl)
  have mc58 : ((c.toNat : Int) == 58) = false := (isC_beq 58 c 58 rfl).trans hc58
  have nc58 : ((c.toNat : Int) != 58) = true := (isC_bne 58 c 58 rfl).trans (by rw [hc58]; rfl)
  have mc35 : ((c.toNat : Int) == 35) = false := (isC_beq 35 c 35 rfl).trans hc35
  have nc35 : ((c.toNat : Int) != 35) = true := (isC_bne 35 c 35 rfl).trans (by rw [hc35]; rfl)
  clear hb10 ha10 ha32 hc32 hc45 hc58 hc35
  go_enter Tryz.func52, Tryz.ntmps52
  go_wp2
  go_ret
  exact ⟨ret_b H.out.symm, rfl⟩
theorem p1_n_ax_k45 (b c a : UInt8) (w : World) (hb10 : isC 10 b = false) (ha10 : isC 10 a = false) (ha32 : isC 32 a = false) (hc32 : isC 32 c = false) (hc45 : isC 45 c = true) (hc58 : isC 58 c = false) (hc35 : isC 35 c = false) :
    Calls Tryz.prog 52 #[.int .u8 b.toNat, .int .u8 c.toNat, .int .u8 a.toNat] w fun e w' => e = .returned (.bool (plainF b c a)) ∧ w = w' := by
  have H : Hid (plainF b c a = true) := Lib.hid (by unfold plainF loose; simp [*])
  have mb10 : ((b.toNat : Int) == 10) = false := (isC_beq 10 b 10 rfl).trans hb10
  have nb10 : ((b.toNat : Int) != 10) = true := (isC_bne 10 b 10 rfl).trans (by rw [hb10]; rfl)
  have ma10 : ((a.toNat : Int) == 10) = false := (isC_beq 10 a 10 rfl).trans ha10
  have na10 : ((a.toNat : Int) != 10) = true := (isC_bne 10 a 10 rfl).trans (by rw [ha10]; rfl)
  have ma32 : ((a.toNat : Int) == 32) = false := (isC_beq 32 a 32 rfl).trans ha32
  have na32 : ((a.toNat : Int) != 32) = true := (isC_bne 32 a 32 rfl).trans (by rw [ha32]; rfl)
  have mc32 : ((c.toNat : Int) == 32) = false := (isC_beq 32 c 32 rfl).trans hc32
  have nc32 : ((c.toNat : Int) != 32) = true := (isC_bne 32 c 32 rfl).trans (by rw [hc32]; rfl)
  have mc45 : ((c.toNat : Int) == 45) = true := (isC_beq 45 c 45 rfl).trans hc45
  have nc45 : ((c.toNat : Int) != 45) = false := (isC_bne 45 c 45 rfl).trans (by rw [hc45]; rfl)
  have mc58 : ((c.toNat : Int) == 58) = false := (isC_beq 58 c 58 rfl).trans hc58
  have nc58 : ((c.toNat : Int) != 58) = true := (isC_bne 58 c 58 rfl).trans (by rw [hc58]; rfl)
  have mc35 : ((c.toNat : Int) == 35) = false := (isC_beq 35 c 35 rfl).trans hc35
  have nc35 : ((c.toNat : Int) != 35) = true := (isC_bne 35 c 35 rfl).trans (by rw [hc35]; rfl)
  clear hb10 ha10 ha32 hc32 hc45 hc58 hc35
  go_enter Tryz.func52, Tryz.ntmps52
  go_wp2
  go_ret
  exact ⟨ret_b H.out.symm, rfl⟩
theorem p1_n_ax_k58 (b c a : UInt8) (w : World) (hb10 : isC 10 b = false) (ha10 : isC 10 a = false) (ha32 : isC 32 a = false) (hc32 : isC 32 c = false) (hc45 : isC 45 c = false) (hc58 : isC 58 c = true) (hc35 : isC 35 c = false) :
    Calls Tryz.prog 52 #[.int .u8 b.toNat, .int .u8 c.toNat, .int .u8 a.toNat] w fun e w' => e = .returned (.bool (plainF b c a)) ∧ w = w' := by
  have H : Hid (plainF b c a = true) := Lib.hid (by unfold plainF loose; simp [*])
  have mb10 : ((b.toNat : Int) == 10) = false := (isC_beq 10 b 10 rfl).trans hb10
  have nb10 : ((b.toNat : Int) != 10) = true := (isC_bne 10 b 10 rfl).trans (by rw [hb10]; rfl)
  have ma10 : ((a.toNat : Int) == 10) = false := (isC_beq 10 a 10 rfl).trans ha10
  have na10 : ((a.toNat : Int) != 10) = true := (isC_bne 10 a 10 rfl).trans (by rw [ha10]; rfl)
  have ma32 : ((a.toNat : Int) == 32) = false := (isC_beq 32 a 32 rfl).trans ha32
  have na32 : ((a.toNat : Int) != 32) = true := (isC_bne 32 a 32 rfl).trans (by rw [ha32]; rfl)
  have mc32 : ((c.toNat : Int) == 32) = false := (isC_beq 32 c 32 rfl).trans hc32
  have nc32 : ((c.toNat : Int) != 32) = true := (isC_bne 32 c 32 rfl).trans (by rw [hc32]; rfl)
  have mc45 : ((c.toNat : Int) == 45) = false := (isC_beq 45 c 45 rfl).trans hc45
  have nc45 : ((c.toNat : Int) != 45) = true := (isC_bne 45 c 45 rfl).trans (by rw [hc45]; rfl)
  have mc58 : ((c.toNat : Int) == 58) = true := (isC_beq 58 c 58 rfl).trans hc58
  have nc58 : ((c.toNat : Int) != 58) = false := (isC_bne 58 c 58 rfl).trans (by rw [hc58]; rfl)
  have mc35 : ((c.toNat : Int) == 35) = false := (isC_beq 35 c 35 rfl).trans hc35
  have nc35 : ((c.toNat : Int) != 35) = true := (isC_bne 35 c 35 rfl).trans (by rw [hc35]; rfl)
  clear hb10 ha10 ha32 hc32 hc45 hc58 hc35
  go_enter Tryz.func52, Tryz.ntmps52
  go_wp2
  go_ret
  exact ⟨ret_b H.out.symm, rfl⟩
theorem p1_n_ax_k35 (b c a : UInt8) (w : World) (hb10 : isC 10 b = false) (ha10 : isC 10 a = false) (ha32 : isC 32 a = false) (hc32 : isC 32 c = false) (hc45 : isC 45 c = false) (hc58 : isC 58 c = false) (hc35 : isC 35 c = true) :
    Calls Tryz.prog 52 #[.int .u8 b.toNat, .int .u8 c.toNat, .int .u8 a.toNat] w fun e w' => e = .returned (.bool (plainF b c a)) ∧ w = w' := by
  have H : Hid (plainF b c a = !isC 32 b) := Lib.hid (by unfold plainF loose; simp [*])
  have mb10 : ((b.toNat : Int) == 10) = false := (isC_beq 10 b 10 rfl).trans hb10
  have nb10 : ((b.toNat : Int) != 10) = true := (isC_bne 10 b 10 rfl).trans (by rw [hb10]; rfl)
  have ma10 : ((a.toNat : Int) == 10) = false := (isC_beq 10 a 10 rfl).trans ha10
  have na10 : ((a.toNat : Int) != 10) = true := (isC_bne 10 a 10 rfl).trans (by rw [ha10]; rfl)
  have ma32 : ((a.toNat : Int) == 32) = false := (isC_beq 32 a 32 rfl).trans ha32
  have na32 : ((a.toNat : Int) != 32) = true := (isC_bne 32 a 32 rfl).trans (by rw [ha32]; rfl)
  have mc32 : ((c.toNat : Int) == 32) = false := (isC_beq 32 c 32 rfl).trans hc32
  have nc32 : ((c.toNat : Int) != 32) = true := (isC_bne 32 c 32 rfl).trans (by rw [hc32]; rfl)
  have mc45 : ((c.toNat : Int) == 45) = false := (isC_beq 45 c 45 rfl).trans hc45
  have nc45 : ((c.toNat : Int) != 45) = true := (isC_bne 45 c 45 rfl).trans (by rw [hc45]; rfl)
  have mc58 : ((c.toNat : Int) == 58) = false := (isC_beq 58 c 58 rfl).trans hc58
  have nc58 : ((c.toNat : Int) != 58) = true := (isC_bne 58 c 58 rfl).trans (by rw [hc58]; rfl)
  have mc35 : ((c.toNat : Int) == 35) = true := (isC_beq 35 c 35 rfl).trans hc35
  have nc35 : ((c.toNat : Int) != 35) = false := (isC_bne 35 c 35 rfl).trans (by rw [hc35]; rfl)
  have nb32 : ((b.toNat : Int) != 32) = !isC 32 b := isC_bne 32 b 32 rfl
  clear hb10 ha10 ha32 hc32 hc45 hc58 hc35
  go_enter Tryz.func52, Tryz.ntmps52
  go_wp2
  go_ret
  exact ⟨ret_b H.out.symm, rfl⟩
theorem p1_n_ax_k (b c a : UInt8) (w : World) (hb10 : isC 10 b = false) (ha10 : isC 10 a = false) (ha32 : isC 32 a = false) (hc32 : isC 32 c = false) (hc45 : isC 45 c = false) (hc58 : isC 58 c = false) (hc35 : isC 35 c = false) :
    Calls Tryz.prog 52 #[.int .u8 b.toNat, .int .u8 c.toNat, .int .u8 a.toNat] w fun e w' => e = .returned (.bool (plainF b c a)) ∧ w = w' := by
  have H : Hid (plainF b c a = good c) := Lib.hid (by unfold plainF loose; simp [*])
  have mb10 : ((b.toNat : Int) == 10) = false := (isC_beq 10 b 10 rfl).trans hb10
  have nb10 : ((b.toNat : Int) != 10) = true := (isC_bne 10 b 10 rfl).trans (by rw [hb10]; rfl)
  have ma10 : ((a.toNat : Int) == 10) = false := (isC_beq 10 a 10 rfl).trans ha10
  have na10 : ((a.toNat : Int) != 10) = true := (isC_bne 10 a 10 rfl).trans (by rw [ha10]; rfl)
  have ma32 : ((a.toNat : Int) == 32) = false := (isC_beq 32 a 32 rfl).trans ha32
  have na32 : ((a.toNat : Int) != 32) = true := (isC_bne 32 a 32 rfl).trans (by rw [ha32]; rfl)
  have mc32 : ((c.toNat : Int) == 32) = false := (isC_beq 32 c 32 rfl).trans hc32
  have nc32 : ((c.toNat : Int) != 32) = true := (isC_bne 32 c 32 rfl).trans (by rw [hc32]; rfl)
  have mc45 : ((c.toNat : Int) == 45) = false := (isC_beq 45 c 45 rfl).trans hc45
  have nc45 : ((c.toNat : Int) != 45) = true := (isC_bne 45 c 45 rfl).trans (by rw [hc45]; rfl)
  have mc58 : ((c.toNat : Int) == 58) = false := (isC_beq 58 c 58 rfl).trans hc58
  have nc58 : ((c.toNat : Int) != 58) = true := (isC_bne 58 c 58 rfl).trans (by rw [hc58]; rfl)
  have mc35 : ((c.toNat : Int) == 35) = false := (isC_beq 35 c 35 rfl).trans hc35
  have nc35 : ((c.toNat : Int) != 35) = true := (isC_bne 35 c 35 rfl).trans (by rw [hc35]; rfl)
  clear hb10 ha10 ha32 hc32 hc45 hc58 hc35
  go_enter Tryz.func52, Tryz.ntmps52
  go_wp2_with (first | (go_at_call 54; refine (printable_any _ _).mono ?_; rintro e w' ⟨rfl, rfl⟩))
  go_ret
  exact ⟨ret_b H.out.symm, rfl⟩
theorem plain1_any (b c a : UInt8) (w : World) : Calls Tryz.prog 52 #[.int .u8 b.toNat, .int .u8 c.toNat, .int .u8 a.toNat] w fun e w' => e = .returned (.bool (plainF b c a)) ∧ w = w' := by
  by_cases hb10 : isC 10 b = true
  · by_cases hf : has firsts c = true
    · exact p1_first b c a w hb10 hf
    · have hf := Bool.eq_false_iff.2 hf
      by_cases ha10 : isC 10 a = true
      · have ha32 := isC_ne ha10 (show (10 : UInt8) ≠ 32 by decide)
        by_cases hc32 : isC 32 c = true
        · have hc45 := isC_ne hc32 (show (32 : UInt8) ≠ 45 by decide); have hc58 := isC_ne hc32 (show (32 : UInt8) ≠ 58 by decide); have hc35 := isC_ne hc32 (show (32 : UInt8) ≠ 35 by decide); exact p1_b_a10_k32 b c a w hb10 hf ha10 ha32 hc32 hc45 hc58 hc35
        · have hc32 := Bool.eq_false_iff.2 hc32
          by_cases hc45 : isC 45 c = true
          · have hc58 := isC_ne hc45 (show (45 : UInt8) ≠ 58 by decide); have hc35 := isC_ne hc45 (show (45 : UInt8) ≠ 35 by decide); exact p1_b_a10_k45 b c a w hb10 hf ha10 ha32 hc32 hc45 hc58 hc35
          · have hc45 := Bool.eq_false_iff.2 hc45
            by_cases hc58 : isC 58 c = true
            · have hc35 := isC_ne hc58 (show (58 : UInt8) ≠ 35 by decide); exact p1_b_a10_k58 b c a w hb10 hf ha10 ha32 hc32 hc45 hc58 hc35
            · have hc58 := Bool.eq_false_iff.2 hc58
              by_cases hc35 : isC 35 c = true
              · exact p1_b_a10_k35 b c a w hb10 hf ha10 ha32 hc32 hc45 hc58 hc35
              · have hc35 := Bool.eq_false_iff.2 hc35
                exact p1_b_a10_k b c a w hb10 hf ha10 ha32 hc32 hc45 hc58 hc35
      · have ha10 := Bool.eq_false_iff.2 ha10
        by_cases ha32 : isC 32 a = true
        · by_cases hc32 : isC 32 c = true
          · have hc45 := isC_ne hc32 (show (32 : UInt8) ≠ 45 by decide); have hc58 := isC_ne hc32 (show (32 : UInt8) ≠ 58 by decide); have hc35 := isC_ne hc32 (show (32 : UInt8) ≠ 35 by decide); exact p1_b_a32_k32 b c a w hb10 hf ha10 ha32 hc32 hc45 hc58 hc35
          · have hc32 := Bool.eq_false_iff.2 hc32
            by_cases hc45 : isC 45 c = true
            · have hc58 := isC_ne hc45 (show (45 : UInt8) ≠ 58 by decide); have hc35 := isC_ne hc45 (show (45 : UInt8) ≠ 35 by decide); exact p1_b_a32_k45 b c a w hb10 hf ha10 ha32 hc32 hc45 hc58 hc35
            · have hc45 := Bool.eq_false_iff.2 hc45
              by_cases hc58 : isC 58 c = true
              · have hc35 := isC_ne hc58 (show (58 : UInt8) ≠ 35 by decide); exact p1_b_a32_k58 b c a w hb10 hf ha10 ha32 hc32 hc45 hc58 hc35
              · have hc58 := Bool.eq_false_iff.2 hc58
                by_cases hc35 : isC 35 c = true
                · exact p1_b_a32_k35 b c a w hb10 hf ha10 ha32 hc32 hc45 hc58 hc35
                · have hc35 := Bool.eq_false_iff.2 hc35
                  exact p1_b_a32_k b c a w hb10 hf ha10 ha32 hc32 hc45 hc58 hc35
        · have ha32 := Bool.eq_false_iff.2 ha32
          by_cases hc32 : isC 32 c = true
          · have hc45 := isC_ne hc32 (show (32 : UInt8) ≠ 45 by decide); have hc58 := isC_ne hc32 (show (32 : UInt8) ≠ 58 by decide); have hc35 := isC_ne hc32 (show (32 : UInt8) ≠ 35 by decide); exact p1_b_ax_k32 b c a w hb10 hf ha10 ha32 hc32 hc45 hc58 hc35
          · have hc32 := Bool.eq_false_iff.2 hc32
            by_cases hc45 : isC 45 c = true
            · have hc58 := isC_ne hc45 (show (45 : UInt8) ≠ 58 by decide); have hc35 := isC_ne hc45 (show (45 : UInt8) ≠ 35 by decide); exact p1_b_ax_k45 b c a w hb10 hf ha10 ha32 hc32 hc45 hc58 hc35
            · have hc45 := Bool.eq_false_iff.2 hc45
              by_cases hc58 : isC 58 c = true
              · have hc35 := isC_ne hc58 (show (58 : UInt8) ≠ 35 by decide); exact p1_b_ax_k58 b c a w hb10 hf ha10 ha32 hc32 hc45 hc58 hc35
              · have hc58 := Bool.eq_false_iff.2 hc58
                by_cases hc35 : isC 35 c = true
                · exact p1_b_ax_k35 b c a w hb10 hf ha10 ha32 hc32 hc45 hc58 hc35
                · have hc35 := Bool.eq_false_iff.2 hc35
                  exact p1_b_ax_k b c a w hb10 hf ha10 ha32 hc32 hc45 hc58 hc35
  · have hb10 := Bool.eq_false_iff.2 hb10
    by_cases ha10 : isC 10 a = true
    · have ha32 := isC_ne ha10 (show (10 : UInt8) ≠ 32 by decide)
      by_cases hc32 : isC 32 c = true
      · have hc45 := isC_ne hc32 (show (32 : UInt8) ≠ 45 by decide); have hc58 := isC_ne hc32 (show (32 : UInt8) ≠ 58 by decide); have hc35 := isC_ne hc32 (show (32 : UInt8) ≠ 35 by decide); exact p1_n_a10_k32 b c a w hb10 ha10 ha32 hc32 hc45 hc58 hc35
      · have hc32 := Bool.eq_false_iff.2 hc32
        by_cases hc45 : isC 45 c = true
        · have hc58 := isC_ne hc45 (show (45 : UInt8) ≠ 58 by decide); have hc35 := isC_ne hc45 (show (45 : UInt8) ≠ 35 by decide); exact p1_n_a10_k45 b c a w hb10 ha10 ha32 hc32 hc45 hc58 hc35
        · have hc45 := Bool.eq_false_iff.2 hc45
          by_cases hc58 : isC 58 c = true
          · have hc35 := isC_ne hc58 (show (58 : UInt8) ≠ 35 by decide); exact p1_n_a10_k58 b c a w hb10 ha10 ha32 hc32 hc45 hc58 hc35
          · have hc58 := Bool.eq_false_iff.2 hc58
            by_cases hc35 : isC 35 c = true
            · exact p1_n_a10_k35 b c a w hb10 ha10 ha32 hc32 hc45 hc58 hc35
            · have hc35 := Bool.eq_false_iff.2 hc35
              exact p1_n_a10_k b c a w hb10 ha10 ha32 hc32 hc45 hc58 hc35
    · have ha10 := Bool.eq_false_iff.2 ha10
      by_cases ha32 : isC 32 a = true
      · by_cases hc32 : isC 32 c = true
        · have hc45 := isC_ne hc32 (show (32 : UInt8) ≠ 45 by decide); have hc58 := isC_ne hc32 (show (32 : UInt8) ≠ 58 by decide); have hc35 := isC_ne hc32 (show (32 : UInt8) ≠ 35 by decide); exact p1_n_a32_k32 b c a w hb10 ha10 ha32 hc32 hc45 hc58 hc35
        · have hc32 := Bool.eq_false_iff.2 hc32
          by_cases hc45 : isC 45 c = true
          · have hc58 := isC_ne hc45 (show (45 : UInt8) ≠ 58 by decide); have hc35 := isC_ne hc45 (show (45 : UInt8) ≠ 35 by decide); exact p1_n_a32_k45 b c a w hb10 ha10 ha32 hc32 hc45 hc58 hc35
          · have hc45 := Bool.eq_false_iff.2 hc45
            by_cases hc58 : isC 58 c = true
            · have hc35 := isC_ne hc58 (show (58 : UInt8) ≠ 35 by decide); exact p1_n_a32_k58 b c a w hb10 ha10 ha32 hc32 hc45 hc58 hc35
            · have hc58 := Bool.eq_false_iff.2 hc58
              by_cases hc35 : isC 35 c = true
              · exact p1_n_a32_k35 b c a w hb10 ha10 ha32 hc32 hc45 hc58 hc35
              · have hc35 := Bool.eq_false_iff.2 hc35
                exact p1_n_a32_k b c a w hb10 ha10 ha32 hc32 hc45 hc58 hc35
      · have ha32 := Bool.eq_false_iff.2 ha32
        by_cases hc32 : isC 32 c = true
        · have hc45 := isC_ne hc32 (show (32 : UInt8) ≠ 45 by decide); have hc58 := isC_ne hc32 (show (32 : UInt8) ≠ 58 by decide); have hc35 := isC_ne hc32 (show (32 : UInt8) ≠ 35 by decide); exact p1_n_ax_k32 b c a w hb10 ha10 ha32 hc32 hc45 hc58 hc35
        · have hc32 := Bool.eq_false_iff.2 hc32
          by_cases hc45 : isC 45 c = true
          · have hc58 := isC_ne hc45 (show (45 : UInt8) ≠ 58 by decide); have hc35 := isC_ne hc45 (show (45 : UInt8) ≠ 35 by decide); exact p1_n_ax_k45 b c a w hb10 ha10 ha32 hc32 hc45 hc58 hc35
          · have hc45 := Bool.eq_false_iff.2 hc45
            by_cases hc58 : isC 58 c = true
            · have hc35 := isC_ne hc58 (show (58 : UInt8) ≠ 35 by decide); exact p1_n_ax_k58 b c a w hb10 ha10 ha32 hc32 hc45 hc58 hc35
            · have hc58 := Bool.eq_false_iff.2 hc58
              by_cases hc35 : isC 35 c = true
              · exact p1_n_ax_k35 b c a w hb10 ha10 ha32 hc32 hc45 hc58 hc35
              · have hc35 := Bool.eq_false_iff.2 hc35
                exact p1_n_ax_k b c a w hb10 ha10 ha32 hc32 hc45 hc58 hc35
end Go.Proofs.YtemndagaicamiaaGreatDoor
namespace Go.Proofs.YtemndagaicamiaaGreatDoor
open Go.RowKit
open Q6
set_option linter.unusedVariables false
theorem tells_plain : Tells3 52 plainF := ⟨enters_of Tryz.func52 (by kernel_rfl) rfl, plain1_any⟩
theorem tells_row : Tells3 55 rowF := ⟨enters_of Tryz.func55 (by kernel_rfl) rfl, row1_any⟩
theorem bytes_of {s : ByteArray} {l : Array UInt8} (h : s.data.toList = l.toList) : s = ⟨l⟩ := by
  cases s; rename_i x; cases x; cases l; simp at h; simp [h]
theorem every_q (s : ByteArray) (g : Nat) (F : UInt8 → UInt8 → UInt8 → Bool) (b : Bool) (w : World) (hs : s.size ≤ maxLen) (T : Tells3 g F) (h : everyB F s.data.toList = b) :
    Calls Tryz.prog 51 #[.string s, .func (.func g) #[] #[]] w fun e w' => e = .returned (.bool b) ∧ w = w' := by
  subst h; exact every_any s g F w hs T
set_option maxHeartbeats 800000 in
theorem Plain_any (s : ByteArray) (w : World) (hs : s.size ≤ maxLen) :
    Calls Tryz.prog 34 #[.string s] w fun e w' => e = .returned (.bool (plainB s.data.toList)) ∧ w = w' := by
  by_cases h0 : s.data.toList = []
  · obtain rfl := bytes_of (l := #[]) h0
    have H : Hid (plainB (⟨#[]⟩ : ByteArray).data.toList = false) := Lib.hid rfl
    clear h0
    go_enter Tryz.func34, Tryz.ntmps34
    go_wp2
    go_ret
    exact ⟨ret_b H.out.symm, rfl⟩
  by_cases h1 : s.data.toList = [126]
  · obtain rfl := bytes_of (l := #[126]) h1
    have H : Hid (plainB (⟨#[126]⟩ : ByteArray).data.toList = false) := Lib.hid rfl
    clear h0 h1
    go_enter Tryz.func34, Tryz.ntmps34
    go_wp2
    go_ret
    exact ⟨ret_b H.out.symm, rfl⟩
  by_cases h2 : s.data.toList = [110, 117, 108, 108]
  · obtain rfl := bytes_of (l := #[110, 117, 108, 108]) h2
    have H : Hid (plainB (⟨#[110, 117, 108, 108]⟩ : ByteArray).data.toList = false) := Lib.hid rfl
    clear h0 h1 h2
    go_enter Tryz.func34, Tryz.ntmps34
    go_wp2
    go_ret
    exact ⟨ret_b H.out.symm, rfl⟩
  obtain ⟨b, hb⟩ : ∃ b, everyB plainF s.data.toList = b := ⟨_, rfl⟩
  have H : Hid (plainB s.data.toList = b) := Lib.hid (by
    unfold plainB bad3
    rw [decide_eq_false h0, decide_eq_false h1, decide_eq_false h2]; exact hb)
  have b0 : s.toList.isEmpty = false := by rw [ByteArray.toList_eq, List.isEmpty_eq_false_iff]; exact h0
  have b0' : ¬ s.toList = [] := by rw [ByteArray.toList_eq]; exact h0
  have b1 : (s.toList == [126]) = false := by rw [ByteArray.toList_eq]; exact beq_eq_false_iff_ne.2 h1
  have b2 : (s.toList == [110, 117, 108, 108]) = false := by rw [ByteArray.toList_eq]; exact beq_eq_false_iff_ne.2 h2
  have HB := Lib.hid hb
  clear h0 h1 h2 hb
  go_enter Tryz.func34, Tryz.ntmps34
  go_wp2_with (go_at_call 51; refine (every_q _ _ plainF b _ hs tells_plain HB.out).mono ?_; rintro e w' ⟨rfl, rfl⟩)
  go_ret
  exact ⟨ret_b H.out.symm, rfl⟩
theorem Plain_q (s : ByteArray) (b : Bool) (w : World) (hs : s.size ≤ maxLen) (h : plainB s.data.toList = b) :
    Calls Tryz.prog 34 #[.string s] w fun e w' => e = .returned (.bool b) ∧ w = w' := by
  subst h; exact Plain_any s w hs
set_option maxHeartbeats 800000 in
theorem Row_any (s : ByteArray) (w : World) (hs : s.size ≤ maxLen) :
    Calls Tryz.prog 35 #[.string s] w fun e w' => e = .returned (.bool (rowB s.data.toList)) ∧ w = w' := by
  rcases Bool.eq_false_or_eq_true (plainB s.data.toList) with hp | hp
  · obtain ⟨b, hb⟩ : ∃ b, everyB rowF s.data.toList = b := ⟨_, rfl⟩
    have H : Hid (rowB s.data.toList = b) := Lib.hid (by unfold rowB; rw [hp, hb]; rfl)
    have HP := Lib.hid hp
    have HB := Lib.hid hb
    clear hp hb
    go_enter Tryz.func35, Tryz.ntmps35
    go_wp2_with (first | (go_at_call 34; refine (Plain_q _ true _ hs HP.out).mono ?_; rintro e w' ⟨rfl, rfl⟩) | (go_at_call 51; refine (every_q _ _ rowF b _ hs tells_row HB.out).mono ?_; rintro e w' ⟨rfl, rfl⟩))
    go_ret
    exact ⟨ret_b H.out.symm, rfl⟩
  · have H : Hid (rowB s.data.toList = false) := Lib.hid (by unfold rowB; rw [hp]; rfl)
    have HP := Lib.hid hp
    clear hp
    go_enter Tryz.func35, Tryz.ntmps35
    go_wp2_with (first | (go_at_call 34; refine (Plain_q _ false _ hs HP.out).mono ?_; rintro e w' ⟨rfl, rfl⟩))
    go_ret
    exact ⟨ret_b H.out.symm, rfl⟩
theorem Row_q (s : ByteArray) (b : Bool) (w : World) (hs : s.size ≤ maxLen) (h : rowB s.data.toList = b) :
    Calls Tryz.prog 35 #[.string s] w fun e w' => e = .returned (.bool b) ∧ w = w' := by
  subst h; exact Row_any s w hs
end Go.Proofs.YtemndagaicamiaaGreatDoor
namespace Go.Proofs.YtemndagaicamiaaGreatDoor
open Go.RowKit
open Q6
set_option linter.unusedVariables false
/-- What hexDigit hands back. -/
def hexI (c : UInt8) : Int := if hexV c < 16 then (hexV c : Int) else -1
theorem wrap8 {n : Int} (h1 : 0 ≤ n) (h2 : n ≤ 255) : IntKind.u8.wrap n = n := by simp [IntKind.wrap, IntKind.bits, IntKind.signed]; omega
theorem hexI_of {c : UInt8} {v : Nat} (h : hexV c = v) (hv : v < 16) : hexI c = (v : Int) := by unfold hexI; rw [h, if_pos hv]
set_option maxHeartbeats 1600000 in
theorem hexDigit_any (c : UInt8) (w : World) : Calls Tryz.prog 122 #[.int .u8 c.toNat] w fun e w' => e = .returned (.int .i64 (hexI c)) ∧ w = w' := by
  have hc := c.toNat_lt
  obtain ⟨m, hm⟩ : ∃ m, c.toNat = m := ⟨_, rfl⟩
  have HV : Hid (hexI c = if 48 ≤ m ∧ m ≤ 57 then ((m - 48 : Nat) : Int) else if 97 ≤ m ∧ m ≤ 102 then ((m - 87 : Nat) : Int) else if 65 ≤ m ∧ m ≤ 70 then ((m - 55 : Nat) : Int) else -1) := Lib.hid (by
    unfold hexI hexV
    rw [hm]
    by_cases a1 : 48 ≤ m ∧ m ≤ 57
    · rw [if_pos a1, if_pos a1, if_pos (by omega)]
    · rw [if_neg a1, if_neg a1]
      by_cases a2 : 97 ≤ m ∧ m ≤ 102
      · rw [if_pos a2, if_pos a2, if_pos (by omega)]
      · rw [if_neg a2, if_neg a2]
        by_cases a3 : 65 ≤ m ∧ m ≤ 70
        · rw [if_pos a3, if_pos a3, if_pos (by omega)]
        · rw [if_neg a3, if_neg a3]; rfl)
  rw [hm] at hc ⊢
  clear hm
  by_cases h0 : m < 48
  · rw [if_neg (by omega), if_neg (by omega), if_neg (by omega)] at HV
    have a1 : ¬ (48 : Int) ≤ (m : Int) := by omega
    have a2 : ¬ (97 : Int) ≤ (m : Int) := by omega
    have a3 : ¬ (65 : Int) ≤ (m : Int) := by omega
    go_enter Tryz.func122, Tryz.ntmps122
    go_wp2
    go_ret
    exact ⟨ret_int HV.out.symm, rfl⟩
  have a1 : (48 : Int) ≤ (m : Int) := by omega
  by_cases h1 : m ≤ 57
  · rw [if_pos ⟨by omega, h1⟩] at HV
    have b1 : (m : Int) ≤ 57 := by omega
    have w1 : IntKind.u8.wrap ((m : Int) - 48) = (m : Int) - 48 := wrap8 (by omega) (by omega)
    go_enter Tryz.func122, Tryz.ntmps122
    go_wp2
    go_ret
    exact ⟨ret_int (by rw [HV.out]; omega), rfl⟩
  have b1 : ¬ (m : Int) ≤ 57 := by omega
  by_cases h2 : m < 65
  · rw [if_neg (by omega), if_neg (by omega), if_neg (by omega)] at HV
    have a2 : ¬ (97 : Int) ≤ (m : Int) := by omega
    have a3 : ¬ (65 : Int) ≤ (m : Int) := by omega
    go_enter Tryz.func122, Tryz.ntmps122
    go_wp2
    go_ret
    exact ⟨ret_int HV.out.symm, rfl⟩
  have a3 : (65 : Int) ≤ (m : Int) := by omega
  by_cases h3 : m ≤ 70
  · rw [if_neg (by omega), if_neg (by omega), if_pos (by omega)] at HV
    have a2 : ¬ (97 : Int) ≤ (m : Int) := by omega
    have b3 : (m : Int) ≤ 70 := by omega
    have w1 : IntKind.u8.wrap ((m : Int) - 65) = (m : Int) - 65 := wrap8 (by omega) (by omega)
    go_enter Tryz.func122, Tryz.ntmps122
    go_wp2
    go_ret
    exact ⟨ret_int (by rw [HV.out]; omega), rfl⟩
  have b3 : ¬ (m : Int) ≤ 70 := by omega
  by_cases h4 : m < 97
  · rw [if_neg (by omega), if_neg (by omega), if_neg (by omega)] at HV
    have a2 : ¬ (97 : Int) ≤ (m : Int) := by omega
    go_enter Tryz.func122, Tryz.ntmps122
    go_wp2
    go_ret
    exact ⟨ret_int HV.out.symm, rfl⟩
  have a2 : (97 : Int) ≤ (m : Int) := by omega
  by_cases h5 : m ≤ 102
  · rw [if_neg (by omega), if_pos (by omega)] at HV
    have b2 : (m : Int) ≤ 102 := by omega
    have w1 : IntKind.u8.wrap ((m : Int) - 97) = (m : Int) - 97 := wrap8 (by omega) (by omega)
    go_enter Tryz.func122, Tryz.ntmps122
    go_wp2
    go_ret
    exact ⟨ret_int (by rw [HV.out]; omega), rfl⟩
  · rw [if_neg (by omega), if_neg (by omega), if_neg (by omega)] at HV
    have b2 : ¬ (m : Int) ≤ 102 := by omega
    go_enter Tryz.func122, Tryz.ntmps122
    go_wp2
    go_ret
    exact ⟨ret_int HV.out.symm, rfl⟩
end Go.Proofs.YtemndagaicamiaaGreatDoor
namespace Go.Proofs.YtemndagaicamiaaGreatDoor
open Go.RowKit
open Q6
set_option linter.unusedVariables false
theorem or_dec : ∀ h l : Fin 16, bits .or .i64 (((h.val * 16 : Nat)) : Int) (l.val : Int) = ((16 * h.val + l.val : Nat) : Int) := by decide +kernel
theorem or_hex {h l : Nat} (hh : h < 16) (hl : l < 16) : bits .or .i64 ((h : Int) * 16) (l : Int) = ((16 * h + l : Nat) : Int) := by
  have e : ((h : Int) * 16) = ((h * 16 : Nat) : Int) := by omega
  rw [e]
  exact or_dec ⟨h, hh⟩ ⟨l, hl⟩
theorem hexDigit_q (c : UInt8) (x : Int) (w : World) (m : Nat) (h : hexI c = x) :
    Calls Tryz.prog 122 #[.int .u8 c.toNat] (w.drewN m) fun e w'' => e = .returned (.int .i64 x) ∧ ∃ m', w'' = w.drewN m' := by
  subst h
  exact Calls.quiet_of_same ((hexDigit_any c _).mono fun e w' ⟨h1, h2⟩ => ⟨h1, h2.symm⟩)
theorem ret_bi {a b c d : Int} (h : a = b) (g : c = d) : Ending.returned (.tuple #[.int .u8 a, .int .i64 c]) = .returned (.tuple #[.int .u8 b, .int .i64 d]) := by rw [h, g]
theorem get2 {s : ByteArray} {k : Nat} (h : k < s.size) : s.data.toList.drop k = s[k] :: s.data.toList.drop (k + 1) := by
  rw [List.drop_eq_getElem_cons (by rw [len_eq]; exact h)]; rfl
theorem hexI_cases (c : UInt8) : (hexI c = -1 ∧ ¬ hexV c < 16) ∨ (hexV c < 16 ∧ hexI c = (hexV c : Int)) := by
  unfold hexI
  by_cases h : hexV c < 16
  · rw [if_pos h]; exact .inr ⟨h, rfl⟩
  · rw [if_neg h]; exact .inl ⟨rfl, h⟩
set_option maxHeartbeats 1600000 in
theorem hexEscape_any (s : ByteArray) (v : UInt8) (m : Nat) (w : World) (hs : s.size ≤ maxLen) (h : denX (s.data.toList.drop 2) = (v, m)) :
    Calls Tryz.prog 112 #[.string s] w fun e w' => e = .returned (.tuple #[.int .u8 v.toNat, .int .i64 m]) ∧ ∃ q, w' = w.drewN q := by
  unfold maxLen at hs
  by_cases h4 : s.size < 4
  · have h4' : (s.size : Int) < 4 := by omega
    have H : Hid (v = 0 ∧ m = 0) := Lib.hid (by
      have hl : (s.data.toList.drop 2).length < 2 := by rw [List.length_drop, len_eq]; omega
      generalize s.data.toList.drop 2 = d at h hl
      match d, hl, h with
      | [], _, h => cases h; exact ⟨rfl, rfl⟩
      | [a], _, h => cases h; exact ⟨rfl, rfl⟩)
    clear h
    go_enter Tryz.func112, Tryz.ntmps112
    go_wp2
    go_ret2
    exact ⟨by rw [H.out.1, H.out.2]; rfl, 0, rfl⟩
  · have h4' : ¬ (s.size : Int) < 4 := by omega
    have i2 : 2 < s.size := by omega
    have i3 : 3 < s.size := by omega
    have i2z : (2 : Int) < (s.size : Int) := by omega
    have i3z : (3 : Int) < (s.size : Int) := by omega
    rw [get2 i2, get2 i3, denX_two] at h
    obtain ⟨c2, hc2⟩ : ∃ c, s[2] = c := ⟨_, rfl⟩
    obtain ⟨c3, hc3⟩ : ∃ c, s[3] = c := ⟨_, rfl⟩
    rw [hc2, hc3] at h
    rcases hexI_cases c2 with ⟨e2, n2⟩ | ⟨n2, e2⟩
    · have H : Hid (v = 0 ∧ m = 0) := Lib.hid (by rw [if_neg (fun e => n2 e.1)] at h; cases h; exact ⟨rfl, rfl⟩)
      obtain ⟨x, e3⟩ : ∃ x, hexI c3 = x := ⟨_, rfl⟩
      have E2 := Lib.hid e2
      have E3 := Lib.hid e3
      clear h n2 e2 e3
      go_enter Tryz.func112, Tryz.ntmps112
      go_wp2
      go_quiet (first | (go_at_call 122; exact hexDigit_q _ _ _ _ (by first | exact E2.out | exact E3.out)))
      go_wp2
      go_ret2
      exact ⟨by rw [H.out.1, H.out.2]; rfl, _, rfl⟩
    · rcases hexI_cases c3 with ⟨e3, n3⟩ | ⟨n3, e3⟩
      · have H : Hid (v = 0 ∧ m = 0) := Lib.hid (by rw [if_neg (fun e => n3 e.2)] at h; cases h; exact ⟨rfl, rfl⟩)
        obtain ⟨x, hx⟩ : ∃ x, hexV c2 = x := ⟨_, rfl⟩
        rw [hx] at e2
        have hx0 : ¬ (x : Int) < 0 := by omega
        have E2 := Lib.hid e2
        have E3 := Lib.hid e3
        clear h n2 e2 e3 n3 hx
        go_enter Tryz.func112, Tryz.ntmps112
        go_wp2
        go_quiet (first | (go_at_call 122; exact hexDigit_q _ _ _ _ (by first | exact E2.out | exact E3.out)))
        go_wp2
        go_ret2
        exact ⟨by rw [H.out.1, H.out.2]; rfl, _, rfl⟩
      · rw [if_pos ⟨n2, n3⟩] at h
        obtain ⟨x, hx⟩ : ∃ x, hexV c2 = x := ⟨_, rfl⟩
        obtain ⟨y, hy⟩ : ∃ y, hexV c3 = y := ⟨_, rfl⟩
        rw [hx] at e2 n2
        rw [hy] at e3 n3
        rw [hx, hy] at h
        have H : Hid ((v.toNat : Int) = ((16 * x + y : Nat) : Int) ∧ m = 4) := Lib.hid (by cases h; refine ⟨?_, rfl⟩; rw [UInt8.toNat_ofNat']; omega)
        have hx0 : ¬ (x : Int) < 0 := by omega
        have hy0 : ¬ (y : Int) < 0 := by omega
        have w1 : IntKind.i64.wrap ((x : Int) * 16) = (x : Int) * 16 := IntWalk.i64_in _ (by omega)
        have w2 := or_hex n2 n3
        obtain ⟨z, hz⟩ : ∃ z : Nat, 16 * x + y = z := ⟨_, rfl⟩
        rw [hz] at w2 H
        have w3 : IntKind.u8.wrap (z : Int) = (z : Int) := wrap8 (by omega) (by omega)
        have E2 := Lib.hid e2
        have E3 := Lib.hid e3
        clear h e2 e3 hx hy hz
        go_enter Tryz.func112, Tryz.ntmps112
        go_wp2
        go_quiet (first | (go_at_call 122; exact hexDigit_q _ _ _ _ (by first | exact E2.out | exact E3.out)))
        go_wp2
        go_ret2
        exact ⟨by rw [H.out.1, H.out.2]; rfl, _, rfl⟩
end Go.Proofs.YtemndagaicamiaaGreatDoor
namespace Go.Proofs.YtemndagaicamiaaGreatDoor
open Go.RowKit
open Q6
set_option linter.unusedVariables false
theorem getd1 (s : ByteArray) (k : Nat) (h : k < s.size) : s.data.toList.getD k 0 = s[k] := getd s k h
set_option maxHeartbeats 800000 in
theorem esc_92 (s : ByteArray) (c : UInt8) (w : World) (hs : s.size ≤ maxLen) (h2 : 2 ≤ s.size) (hc : s[1] = c) (hc92 : isC 92 c = true) (hc34 : isC 34 c = false) (hc110 : isC 110 c = false) (hc116 : isC 116 c = false) (hc120 : isC 120 c = false) :
    Calls Tryz.prog 97 #[.string s] w fun e w' => e = .returned (.tuple #[.int .u8 c.toNat, .int .i64 2]) ∧ ∃ q, w' = w.drewN q := by
  have hs' := hs
  unfold maxLen at hs'
  have h2z : ¬ (s.size : Int) < 2 := by omega
  have h1 : 1 < s.size := by omega
  have h1z : (1 : Int) < (s.size : Int) := by omega
  have m92 : ((c.toNat : Int) == 92) = true := (isC_beq 92 c 92 rfl).trans hc92
  have m34 : ((c.toNat : Int) == 34) = false := (isC_beq 34 c 34 rfl).trans hc34
  have m110 : ((c.toNat : Int) == 110) = false := (isC_beq 110 c 110 rfl).trans hc110
  have m116 : ((c.toNat : Int) == 116) = false := (isC_beq 116 c 116 rfl).trans hc116
  have m120 : ((c.toNat : Int) == 120) = false := (isC_beq 120 c 120 rfl).trans hc120
  clear hc92 hc34 hc110 hc116 hc120
  go_enter Tryz.func97, Tryz.ntmps97
  go_wp2
  go_ret2
  exact ⟨rfl, 0, rfl⟩
set_option maxHeartbeats 800000 in
theorem esc_34 (s : ByteArray) (c : UInt8) (w : World) (hs : s.size ≤ maxLen) (h2 : 2 ≤ s.size) (hc : s[1] = c) (hc92 : isC 92 c = false) (hc34 : isC 34 c = true) (hc110 : isC 110 c = false) (hc116 : isC 116 c = false) (hc120 : isC 120 c = false) :
    Calls Tryz.prog 97 #[.string s] w fun e w' => e = .returned (.tuple #[.int .u8 c.toNat, .int .i64 2]) ∧ ∃ q, w' = w.drewN q := by
  have hs' := hs
  unfold maxLen at hs'
  have h2z : ¬ (s.size : Int) < 2 := by omega
  have h1 : 1 < s.size := by omega
  have h1z : (1 : Int) < (s.size : Int) := by omega
  have m92 : ((c.toNat : Int) == 92) = false := (isC_beq 92 c 92 rfl).trans hc92
  have m34 : ((c.toNat : Int) == 34) = true := (isC_beq 34 c 34 rfl).trans hc34
  have m110 : ((c.toNat : Int) == 110) = false := (isC_beq 110 c 110 rfl).trans hc110
  have m116 : ((c.toNat : Int) == 116) = false := (isC_beq 116 c 116 rfl).trans hc116
  have m120 : ((c.toNat : Int) == 120) = false := (isC_beq 120 c 120 rfl).trans hc120
  clear hc92 hc34 hc110 hc116 hc120
  go_enter Tryz.func97, Tryz.ntmps97
  go_wp2
  go_ret2
  exact ⟨rfl, 0, rfl⟩
set_option maxHeartbeats 800000 in
theorem esc_110 (s : ByteArray) (c : UInt8) (w : World) (hs : s.size ≤ maxLen) (h2 : 2 ≤ s.size) (hc : s[1] = c) (hc92 : isC 92 c = false) (hc34 : isC 34 c = false) (hc110 : isC 110 c = true) (hc116 : isC 116 c = false) (hc120 : isC 120 c = false) :
    Calls Tryz.prog 97 #[.string s] w fun e w' => e = .returned (.tuple #[.int .u8 10, .int .i64 2]) ∧ ∃ q, w' = w.drewN q := by
  have hs' := hs
  unfold maxLen at hs'
  have h2z : ¬ (s.size : Int) < 2 := by omega
  have h1 : 1 < s.size := by omega
  have h1z : (1 : Int) < (s.size : Int) := by omega
  have m92 : ((c.toNat : Int) == 92) = false := (isC_beq 92 c 92 rfl).trans hc92
  have m34 : ((c.toNat : Int) == 34) = false := (isC_beq 34 c 34 rfl).trans hc34
  have m110 : ((c.toNat : Int) == 110) = true := (isC_beq 110 c 110 rfl).trans hc110
  have m116 : ((c.toNat : Int) == 116) = false := (isC_beq 116 c 116 rfl).trans hc116
  have m120 : ((c.toNat : Int) == 120) = false := (isC_beq 120 c 120 rfl).trans hc120
  clear hc92 hc34 hc110 hc116 hc120
  go_enter Tryz.func97, Tryz.ntmps97
  go_wp2
  go_ret2
  exact ⟨rfl, 0, rfl⟩
set_option maxHeartbeats 800000 in
theorem esc_116 (s : ByteArray) (c : UInt8) (w : World) (hs : s.size ≤ maxLen) (h2 : 2 ≤ s.size) (hc : s[1] = c) (hc92 : isC 92 c = false) (hc34 : isC 34 c = false) (hc110 : isC 110 c = false) (hc116 : isC 116 c = true) (hc120 : isC 120 c = false) :
    Calls Tryz.prog 97 #[.string s] w fun e w' => e = .returned (.tuple #[.int .u8 9, .int .i64 2]) ∧ ∃ q, w' = w.drewN q := by
  have hs' := hs
  unfold maxLen at hs'
  have h2z : ¬ (s.size : Int) < 2 := by omega
  have h1 : 1 < s.size := by omega
  have h1z : (1 : Int) < (s.size : Int) := by omega
  have m92 : ((c.toNat : Int) == 92) = false := (isC_beq 92 c 92 rfl).trans hc92
  have m34 : ((c.toNat : Int) == 34) = false := (isC_beq 34 c 34 rfl).trans hc34
  have m110 : ((c.toNat : Int) == 110) = false := (isC_beq 110 c 110 rfl).trans hc110
  have m116 : ((c.toNat : Int) == 116) = true := (isC_beq 116 c 116 rfl).trans hc116
  have m120 : ((c.toNat : Int) == 120) = false := (isC_beq 120 c 120 rfl).trans hc120
  clear hc92 hc34 hc110 hc116 hc120
  go_enter Tryz.func97, Tryz.ntmps97
  go_wp2
  go_ret2
  exact ⟨rfl, 0, rfl⟩
set_option maxHeartbeats 800000 in
theorem esc_120 (s : ByteArray) (c : UInt8) (w : World) (hs : s.size ≤ maxLen) (h2 : 2 ≤ s.size) (hc : s[1] = c) (v : UInt8) (m : Nat) (hX : denX (s.data.toList.drop 2) = (v, m)) (hc92 : isC 92 c = false) (hc34 : isC 34 c = false) (hc110 : isC 110 c = false) (hc116 : isC 116 c = false) (hc120 : isC 120 c = true) :
    Calls Tryz.prog 97 #[.string s] w fun e w' => e = .returned (.tuple #[.int .u8 v.toNat, .int .i64 m]) ∧ ∃ q, w' = w.drewN q := by
  have HX := Lib.hid hX
  clear hX
  have hs' := hs
  unfold maxLen at hs'
  have h2z : ¬ (s.size : Int) < 2 := by omega
  have h1 : 1 < s.size := by omega
  have h1z : (1 : Int) < (s.size : Int) := by omega
  have m92 : ((c.toNat : Int) == 92) = false := (isC_beq 92 c 92 rfl).trans hc92
  have m34 : ((c.toNat : Int) == 34) = false := (isC_beq 34 c 34 rfl).trans hc34
  have m110 : ((c.toNat : Int) == 110) = false := (isC_beq 110 c 110 rfl).trans hc110
  have m116 : ((c.toNat : Int) == 116) = false := (isC_beq 116 c 116 rfl).trans hc116
  have m120 : ((c.toNat : Int) == 120) = true := (isC_beq 120 c 120 rfl).trans hc120
  clear hc92 hc34 hc110 hc116 hc120
  go_enter Tryz.func97, Tryz.ntmps97
  go_wp2_with (go_at_call 112; refine (hexEscape_any _ v m _ hs HX.out).mono ?_; rintro e w' ⟨rfl, q, rfl⟩)
  go_ret2
  exact ⟨rfl, _, rfl⟩
set_option maxHeartbeats 800000 in
theorem esc_no (s : ByteArray) (c : UInt8) (w : World) (hs : s.size ≤ maxLen) (h2 : 2 ≤ s.size) (hc : s[1] = c) (hc92 : isC 92 c = false) (hc34 : isC 34 c = false) (hc110 : isC 110 c = false) (hc116 : isC 116 c = false) (hc120 : isC 120 c = false) :
    Calls Tryz.prog 97 #[.string s] w fun e w' => e = .returned (.tuple #[.int .u8 0, .int .i64 0]) ∧ ∃ q, w' = w.drewN q := by
  have hs' := hs
  unfold maxLen at hs'
  have h2z : ¬ (s.size : Int) < 2 := by omega
  have h1 : 1 < s.size := by omega
  have h1z : (1 : Int) < (s.size : Int) := by omega
  have m92 : ((c.toNat : Int) == 92) = false := (isC_beq 92 c 92 rfl).trans hc92
  have m34 : ((c.toNat : Int) == 34) = false := (isC_beq 34 c 34 rfl).trans hc34
  have m110 : ((c.toNat : Int) == 110) = false := (isC_beq 110 c 110 rfl).trans hc110
  have m116 : ((c.toNat : Int) == 116) = false := (isC_beq 116 c 116 rfl).trans hc116
  have m120 : ((c.toNat : Int) == 120) = false := (isC_beq 120 c 120 rfl).trans hc120
  clear hc92 hc34 hc110 hc116 hc120
  go_enter Tryz.func97, Tryz.ntmps97
  go_wp2
  go_ret2
  exact ⟨rfl, 0, rfl⟩
set_option maxHeartbeats 800000 in
theorem escape_any (s : ByteArray) (v : UInt8) (m : Nat) (w : World) (hs : s.size ≤ maxLen) (h0 : 1 ≤ s.size) (h : denB (s.data.toList.drop 1) = (v, m)) :
    Calls Tryz.prog 97 #[.string s] w fun e w' => e = .returned (.tuple #[.int .u8 v.toNat, .int .i64 m]) ∧ ∃ q, w' = w.drewN q := by
  by_cases h2 : s.size < 2
  · have H : Hid (v = 0 ∧ m = 0) := Lib.hid (by
      have hl : s.data.toList.drop 1 = [] := List.drop_of_length_le (by rw [len_eq]; omega)
      rw [hl] at h
      cases h; exact ⟨rfl, rfl⟩)
    have h2z : (s.size : Int) < 2 := by omega
    clear h
    go_enter Tryz.func97, Tryz.ntmps97
    go_wp2
    go_ret2
    exact ⟨by rw [H.out.1, H.out.2]; rfl, 0, rfl⟩
  · have h1 : 1 < s.size := by omega
    rw [get2 h1, denB_cons] at h
    obtain ⟨c, hc⟩ : ∃ c, s[1] = c := ⟨_, rfl⟩
    rw [hc] at h
    by_cases hc92 : isC 92 c = true
    · have hc34 := isC_ne hc92 (show (92 : UInt8) ≠ 34 by decide); have hc110 := isC_ne hc92 (show (92 : UInt8) ≠ 110 by decide); have hc116 := isC_ne hc92 (show (92 : UInt8) ≠ 116 by decide); have hc120 := isC_ne hc92 (show (92 : UInt8) ≠ 120 by decide); have e := isC_iff.1 hc92
      rw [if_pos (.inl e)] at h
      have ev : v = c ∧ m = 2 := by cases h; exact ⟨rfl, rfl⟩
      rw [ev.1, ev.2]
      exact esc_92 s c w hs (by omega) hc hc92 hc34 hc110 hc116 hc120
    · have n92 : c ≠ 92 := fun e => hc92 (isC_iff.2 e)
      have hc92 := Bool.eq_false_iff.2 hc92
      by_cases hc34 : isC 34 c = true
      · have hc110 := isC_ne hc34 (show (34 : UInt8) ≠ 110 by decide); have hc116 := isC_ne hc34 (show (34 : UInt8) ≠ 116 by decide); have hc120 := isC_ne hc34 (show (34 : UInt8) ≠ 120 by decide); have e := isC_iff.1 hc34
        rw [if_pos (.inr e)] at h
        have ev : v = c ∧ m = 2 := by cases h; exact ⟨rfl, rfl⟩
        rw [ev.1, ev.2]
        exact esc_34 s c w hs (by omega) hc hc92 hc34 hc110 hc116 hc120
      · have n34 : c ≠ 34 := fun e => hc34 (isC_iff.2 e)
        have hc34 := Bool.eq_false_iff.2 hc34
        have nn : ¬ (c = 92 ∨ c = 34) := fun e => e.elim n92 n34
        by_cases hc110 : isC 110 c = true
        · have hc116 := isC_ne hc110 (show (110 : UInt8) ≠ 116 by decide); have hc120 := isC_ne hc110 (show (110 : UInt8) ≠ 120 by decide); have e := isC_iff.1 hc110
          rw [if_neg nn, if_pos e] at h; cases h
          exact esc_110 s c w hs (by omega) hc hc92 hc34 hc110 hc116 hc120
        · have n110 : c ≠ 110 := fun e => hc110 (isC_iff.2 e)
          have hc110 := Bool.eq_false_iff.2 hc110
          by_cases hc116 : isC 116 c = true
          · have hc120 := isC_ne hc116 (show (116 : UInt8) ≠ 120 by decide); have e := isC_iff.1 hc116
            rw [if_neg nn, if_neg n110, if_pos e] at h; cases h
            exact esc_116 s c w hs (by omega) hc hc92 hc34 hc110 hc116 hc120
          · have n116 : c ≠ 116 := fun e => hc116 (isC_iff.2 e)
            have hc116 := Bool.eq_false_iff.2 hc116
            by_cases hc120 : isC 120 c = true
            · have e := isC_iff.1 hc120
              rw [if_neg nn, if_neg n110, if_neg n116, if_pos e] at h
              exact esc_120 s c w hs (by omega) hc v m h hc92 hc34 hc110 hc116 hc120
            · have n120 : c ≠ 120 := fun e => hc120 (isC_iff.2 e)
              have hc120 := Bool.eq_false_iff.2 hc120
              rw [if_neg nn, if_neg n110, if_neg n116, if_neg n120] at h; cases h
              exact esc_no s c w hs (by omega) hc hc92 hc34 hc110 hc116 hc120
set_option maxHeartbeats 800000 in
theorem denoted_any (s : ByteArray) (v : UInt8) (m : Nat) (w : World) (hs : s.size ≤ maxLen) (h0 : 1 ≤ s.size) (h : den s.data.toList = (v, m)) :
    Calls Tryz.prog 87 #[.string s] w fun e w' => e = .returned (.tuple #[.int .u8 v.toNat, .int .i64 m]) ∧ ∃ q, w' = w.drewN q := by
  have hp : 0 < s.size := by omega
  have hl := get2 hp
  rw [List.drop_zero] at hl
  rw [hl, den_cons] at h
  obtain ⟨c, hc⟩ : ∃ c, s[0] = c := ⟨_, rfl⟩
  rw [hc] at h
  clear hl
  have hpz : (0 : Int) < (s.size : Int) := by omega
  by_cases hc92 : isC 92 c = true
  · have m92 : ((c.toNat : Int) == 92) = true := (isC_beq 92 c 92 rfl).trans hc92
    rw [if_pos (isC_iff.1 hc92)] at h
    have HB := Lib.hid h
    clear h hc92
    go_enter Tryz.func87, Tryz.ntmps87
    go_wp2_with (go_at_call 97; refine (escape_any _ v m _ hs h0 HB.out).mono ?_; rintro e w' ⟨rfl, q, rfl⟩)
    go_ret2
    exact ⟨rfl, _, rfl⟩
  · have m92 : ((c.toNat : Int) == 92) = false := (isC_beq 92 c 92 rfl).trans (Bool.eq_false_iff.2 hc92)
    rw [if_neg (fun e => hc92 (isC_iff.2 e))] at h
    rcases Bool.eq_false_or_eq_true (good c) with hg | hg
    · rw [if_pos hg] at h
      have H : Hid (v = c ∧ m = 1) := Lib.hid (by cases h; exact ⟨rfl, rfl⟩)
      have hcall := printable_any c
      rw [hg] at hcall
      clear h hc92 hg
      go_enter Tryz.func87, Tryz.ntmps87
      go_wp2_with (go_at_call 54; refine (hcall _).mono ?_; rintro e w' ⟨rfl, rfl⟩)
      go_ret2
      exact ⟨by rw [H.out.1, H.out.2]; rfl, 0, rfl⟩
    · rw [if_neg (by rw [hg]; decide)] at h
      have H : Hid (v = 0 ∧ m = 0) := Lib.hid (by cases h; exact ⟨rfl, rfl⟩)
      have hcall := printable_any c
      rw [hg] at hcall
      clear h hc92 hg
      go_enter Tryz.func87, Tryz.ntmps87
      go_wp2_with (go_at_call 54; refine (hcall _).mono ?_; rintro e w' ⟨rfl, rfl⟩)
      go_ret2
      exact ⟨by rw [H.out.1, H.out.2]; rfl, 0, rfl⟩
end Go.Proofs.YtemndagaicamiaaGreatDoor
namespace Go.Proofs.YtemndagaicamiaaGreatDoor
open Go.RowKit Go.Sort
open Q6
set_option linter.unusedVariables false
def encB (c : UInt8) : Value := .int .u8 (c.toNat : Int)
theorem infoB0 : (Tryz.prog.info? 5).map (fun i => (i.zero, i.size, i.bytes)) = some (some (.int .u8 0), 1, 1) := by kernel_rfl
theorem infoB : ∃ i, Tryz.prog.info? 5 = some i ∧ i.zero = some (.int .u8 0) ∧ i.size = 1 ∧ i.bytes = 1 := by
  have h := infoB0
  cases hi : Tryz.prog.info? 5 with
  | none => rw [hi] at h; cases h
  | some i =>
    rw [hi] at h
    simp only [Option.map_some, Option.some.injEq, Prod.mk.injEq] at h
    exact ⟨i, rfl, h.1, h.2.1, h.2.2⟩
theorem nums_of (l : List UInt8) : strOfNums (l.map fun c => (c.toNat : Int)) = ⟨l.toArray⟩ := by
  unfold strOfNums
  congr 2
  rw [List.map_map]
  conv => rhs; rw [← List.map_id l]
  apply List.map_congr_left
  intro c _
  simp
theorem conv_read {w' : World} {b len cap : Nat} {l : List UInt8} (hcell : ∀ i (hi : i < l.length), w'.cell? ⟨b, i, none⟩ = some (encB l[i])) (hlen : l.length = len) :
    (convert 36 9 (.slice (some ⟨b, 0, none⟩) len cap)).run Tryz.prog w' = .ok (.string ⟨l.toArray⟩) w' := by
  have h := run_convert_bytes_arg (P := Tryz.prog) w' 36 5 Tryz.underlying36 Tryz.underlying5 b 0 len cap (l.map fun c => (c.toNat : Int)) (by simpa using hlen) (fun i hi => by
    rw [Nat.zero_add, hcell i (by omega)]
    simp [List.getD, List.getElem?_eq_getElem (show i < l.length by omega), encB]) 9 Tryz.underlying9
  subst hlen
  rw [h, nums_of]
theorem own_conv {wr : World} {base n : Nat} {v : Value} {l : List UInt8} (h : wr.ownsRow base 5 1 v n (l.map encB)) (hv : v ≠ .slice none 0 0) :
    ∃ g cap, v = .slice (some ⟨g, 0, none⟩) n cap ∧ (convert 36 9 (.slice (some ⟨g, 0, none⟩) n cap)).run Tryz.prog wr = .ok (.string ⟨l.toArray⟩) wr := by
  obtain ⟨g, cap, rfl, _, hg, h1, h2, hl, hH⟩ := Lib.holds_of_ownsRow h hv
  refine ⟨g, cap, rfl, conv_read (fun i hi => ?_) hl⟩
  have := (hH i (by simpa using hi)).1
  rw [getElem!_pos l.toArray i (by simpa using hi), Nat.zero_add] at this
  simpa using this
theorem conv_nil (w : World) : (convert 36 9 (.slice none 0 0)).run Tryz.prog w = .ok (.string ⟨#[]⟩) w :=
  run_convert_bytes_nil (P := Tryz.prog) w 36 5 Tryz.underlying36 Tryz.underlying5 0 0 9 Tryz.underlying9
theorem own_none {wr : World} {base n : Nat} {l : List UInt8} (h : wr.ownsRow base 5 1 (.slice none 0 0) n (l.map encB)) : n = 0 ∧ l = [] := by
  rcases h.2 with ⟨_, h0⟩ | ⟨g, cap, cur, h0, _⟩
  · refine ⟨h0, ?_⟩
    have hl : (l.map encB).length = n * 1 := h.1
    rw [List.length_map] at hl
    exact List.length_eq_zero_iff.1 (by omega)
  · cases h0
theorem own_cases {wr : World} {base n : Nat} {v : Value} {l : List UInt8} (h : wr.ownsRow base 5 1 v n (l.map encB)) :
    (v = .slice none 0 0 ∧ l = []) ∨ ∃ g cap, v = .slice (some ⟨g, 0, none⟩) n cap ∧ (convert 36 9 (.slice (some ⟨g, 0, none⟩) n cap)).run Tryz.prog wr = .ok (.string ⟨l.toArray⟩) wr := by
  by_cases hv : v = .slice none 0 0
  · subst hv; exact .inl ⟨rfl, (own_none h).2⟩
  · exact .inr (own_conv h hv)
theorem own_len {wr : World} {base n : Nat} {v : Value} {l : List UInt8} (h : wr.ownsRow base 5 1 v n (l.map encB)) : l.length = n := by
  have hl : (l.map encB).length = n * 1 := h.1
  rw [List.length_map] at hl
  omega
theorem row_new (w : World) (o : Obj) : (w.alloc o).heap[w.heap.size]? = some o := by
  show (w.heap.push o)[w.heap.size]? = some o
  simp
theorem cells_new (w : World) (c : Array Value) (t : TypeId) : ∀ j u, c.toList[j]? = some u → (w.alloc (.cells c t)).cell? ((⟨w.heap.size, 0, none⟩ : Addr).add j) = some u := by
  intro j u h
  have hadd : (⟨w.heap.size, 0, none⟩ : Addr).add j = ⟨w.heap.size, j, none⟩ := by unfold Addr.add; split <;> simp_all
  rw [hadd, cell_of_row _ _ j c t (0, 0) (row_new w _)]
  simpa using h
theorem one_one (a : Int) : ∀ u ∈ [Value.int .u8 a], u.oneCell' = true := by
  intro u hu
  simp at hu
  subst hu; rfl
theorem two_one (a b : Int) : ∀ u ∈ [Value.int .u8 a, Value.int .u8 b], u.oneCell' = true := by
  intro u hu
  simp at hu
  rcases hu with rfl | rfl <;> rfl
theorem four_one (a b c d : Int) : ∀ u ∈ [Value.int .u8 a, Value.int .u8 b, Value.int .u8 c, Value.int .u8 d], u.oneCell' = true := by
  intro u hu
  simp at hu
  rcases hu with rfl | rfl | rfl | rfl <;> rfl
theorem owns_drew {w : World} {base n size : Nat} {e : TypeId} {v : Value} {xs : List Value} (h : w.ownsRow base e size v n xs) : w.drew.ownsRow base e size v n xs := h
theorem owns_drewN {w : World} {base n size : Nat} {e : TypeId} {v : Value} {xs : List Value} (h : w.ownsRow base e size v n xs) (q : Nat) : (w.drewN q).ownsRow base e size v n xs := h
theorem owns_nil (w : World) (base : Nat) (e : TypeId) : w.ownsRow base e 1 (.slice none 0 0) 0 [] := ⟨rfl, .inl ⟨rfl, rfl⟩⟩
theorem belowD (w : World) (q : Nat) : Below w.heap.size w (w.drewN q) := ⟨rfl, rfl, rfl, Nat.le_refl _, fun _ _ => rfl⟩
theorem Below.dr {w w2 : World} {b : Nat} (h : Below b w w2) (hb : b ≤ w2.heap.size) (n : Nat) : Below b w (w2.drewN n) := h.trans ((belowD w2 n).mono hb)
theorem ret_sii {a b : ByteArray} {m n e f : Int} (h : a = b) (g : m = n) (k : e = f) : Ending.returned (.tuple #[.string a, .int .i64 m, .int .i64 e]) = .returned (.tuple #[.string b, .int .i64 n, .int .i64 f]) := by rw [h, g, k]
theorem bytes_ext {a b : ByteArray} (h : a.data.toList = b.data.toList) : a = b := by
  cases a; cases b; simp at h; simp [h]
theorem data_app (a b : ByteArray) : (a ++ b).data.toList = a.data.toList ++ b.data.toList := by
  rw [ByteArray.data_append]; simp
theorem mk_of {l : List UInt8} {a : ByteArray} (h : l = a.data.toList) : (⟨l.toArray⟩ : ByteArray) = a := bytes_ext (by simp [h])
theorem map_snoc (l : List UInt8) (c : UInt8) : (l ++ [c]).map encB = l.map encB ++ [.int .u8 (c.toNat : Int)] := by simp [encB]
end Go.Proofs.YtemndagaicamiaaGreatDoor
namespace Go.Proofs.YtemndagaicamiaaGreatDoor
open Go.RowKit Go.Sort
open Q6
set_option linter.unusedVariables false
theorem denoted_q (s : ByteArray) (l : List UInt8) (v : UInt8) (m : Nat) (w : World) (hs : s.size ≤ maxLen) (hl : s.data.toList = l) (h0 : 1 ≤ l.length) (h : den l = (v, m)) :
    Calls Tryz.prog 87 #[.string s] w fun e w' => e = .returned (.tuple #[.int .u8 v.toNat, .int .i64 m]) ∧ ∃ q, w' = w.drewN q := by
  subst hl; exact denoted_any s v m w hs (by rw [← len_eq]; exact h0) h
theorem rest_data (s : ByteArray) (k : Nat) : (s.extract k s.size).data.toList = s.data.toList.drop k := by
  rw [Lib.extract_data]
  exact List.take_of_length_le (by rw [List.length_drop, len_eq]; exact Nat.le_refl _)
theorem rest_size (s : ByteArray) (k : Nat) (h : k ≤ s.size) : (s.extract k s.size).size = s.size - k := by
  rw [ByteArray.size_extract]; omega
set_option maxHeartbeats 4000000 in
theorem scanDouble_any (s : ByteArray) (k0 : Nat) (w : World) (hs : s.size ≤ 1000000) (hk0 : k0 ≤ s.size) (q : ByteArray) (x y : Int)
    (hq : outV (atD s.data.toList [] k0) = q.data.toList) (hx : outN (atD s.data.toList [] k0) = x) (hy : outE (atD s.data.toList [] k0) = y) :
    Calls Tryz.prog 69 #[.string s, .int .i64 (k0 : Int)] w fun e w' => e = .returned (.tuple #[.string q, .int .i64 x, .int .i64 y]) ∧ Below w.heap.size w w' := by
  obtain ⟨i0, hi, hz0, hz1, hz2⟩ := infoB
  have HOUT : Hid (outV (atD s.data.toList [] k0) = q.data.toList ∧ outN (atD s.data.toList [] k0) = x ∧ outE (atD s.data.toList [] k0) = y) := Lib.hid ⟨hq, hx, hy⟩
  clear hq hx hy
  obtain ⟨R, hR⟩ : ∃ R, atD s.data.toList [] k0 = R := ⟨_, rfl⟩
  rw [hR] at HOUT
  have HR0 := Lib.hid hR
  clear hR
  have HLEN := Lib.hid (len_eq s)
  have HO1 := Lib.hid (owns_nil w w.heap.size 5)
  obtain ⟨n, hn⟩ : ∃ n, s.size = n := ⟨_, rfl⟩
  have hsn : n ≤ 1000000 := by omega
  go_enter Tryz.func69, Tryz.ntmps69
  go_wp2
  go_loopw [1, 7] (fun si sv wr => ∃ (k : Nat) (acc : List UInt8), k ≤ n ∧ acc.length ≤ k ∧ si = .int .i64 (k : Int) ∧ wr.ownsRow w.heap.size 5 1 sv acc.length (acc.map encB) ∧ Below w.heap.size w wr ∧ Hid (atD s.data.toList acc k = R)) (fun si _ _ => n - (intOf si).toNat)
  case atStart => exact ⟨k0, [], by omega, Nat.zero_le _, rfl, HO1.out, Below.refl _ _, HR0⟩
  case round =>
    clear HO1 HR0
    obtain ⟨k, acc, hk, hak, rfl, hown, hbel, HR⟩ := hrel
    have HO := Lib.hid hown
    have HB := Lib.hid hbel
    clear hbel
    by_cases hlt : k < n
    · have hks : k < s.size := by omega
      have hkl : k < s.data.toList.length := by rw [HLEN.out]; exact hks
      have hskz : (k : Int) < (n : Int) := by omega
      have hg : s.data.toList.getD k 0 = s[k]'hks := getd s k hks
      obtain ⟨c, hc⟩ : ∃ c, s[k]'hks = c := ⟨_, rfl⟩
      rw [hc] at hg
      have HG := Lib.hid hg
      have HKL := Lib.hid hkl
      clear hg hkl
      by_cases h34 : c = 34
      · have m34 : ((c.toNat : Int) != 34) = false := by rw [isC_bne 34 c 34 rfl, isC_iff.2 h34]; rfl
        have m34' : ((c.toNat : Int) == 34) = true := by rw [isC_beq 34 c 34 rfl, isC_iff.2 h34]
        have HE := Lib.hid (HR.out.symm.trans (atD_end (acc := acc) HKL.out (HG.out.trans h34)))
        clear h34
        have hkn : ((k : Int) == (n : Int)) = false := beq_eq_false_iff_ne.2 (by omega)
        have hkn' : ¬ (k : Int) = (n : Int) := by omega
        rcases own_cases hown with ⟨hv, hA⟩ | ⟨g, cap, hv2, hcv⟩
        · subst hv
          have HA := Lib.hid hA
          clear hown hA
          have hcv := conv_nil wr
          go_wp2
          go_ret3
          exact ⟨ret_sii (bytes_ext (by rw [← HOUT.out.1, HE.out, HA.out]; rfl)) (by rw [← HOUT.out.2.1, HE.out]; rfl) (by rw [← HOUT.out.2.2, HE.out]; rfl), HB.out⟩
        · subst hv2
          clear hown
          obtain ⟨A, hA⟩ : ∃ A : ByteArray, A = ⟨acc.toArray⟩ := ⟨_, rfl⟩
          rw [← hA] at hcv
          have HA := Lib.hid hA
          clear hA
          go_wp2
          go_ret3
          exact ⟨ret_sii (by rw [HA.out]; exact bytes_ext (by rw [← HOUT.out.1, HE.out]; rfl)) (by rw [← HOUT.out.2.1, HE.out]; rfl) (by rw [← HOUT.out.2.2, HE.out]; rfl), HB.out⟩
      · have m34 : ((c.toNat : Int) != 34) = true := by rw [isC_bne 34 c 34 rfl, Bool.eq_false_iff.2 (fun e => h34 (isC_iff.1 e))]; rfl
        have m34' : ((c.toNat : Int) == 34) = false := by rw [isC_beq 34 c 34 rfl]; exact Bool.eq_false_iff.2 (fun e => h34 (isC_iff.1 e))
        obtain ⟨vm, hvm⟩ : ∃ vm, den (s.data.toList.drop k) = vm := ⟨_, rfl⟩
        obtain ⟨v, m⟩ := vm
        have hml := den_len (s.data.toList.drop k)
        rw [hvm, List.length_drop, HLEN.out] at hml
        have hml' : m ≤ s.size - k := hml
        clear hml
        have hC := (fun w0 => denoted_q (s.extract k s.size) _ v m w0 (by rw [rest_size s k (by omega)]; unfold maxLen; omega) (rest_data s k) (by rw [List.length_drop, HLEN.out]; omega) hvm)
        rw [hn] at hC hml'
        have HC := Lib.hid hC
        clear hC
        by_cases hm0 : m = 0
        · subst hm0
          have HE := Lib.hid (HR.out.symm.trans (atD_bad (acc := acc) HKL.out (by rw [HG.out]; exact h34) (by rw [hvm])))
          clear hvm h34
          go_wp2_with (go_at_call 87; refine (HC.out _).mono ?_; rintro e w' ⟨rfl, z, rfl⟩)
          go_ret3
          exact ⟨ret_sii (bytes_ext (by rw [← HOUT.out.1, HE.out]; rfl)) (by rw [← HOUT.out.2.1, HE.out]; rfl) (by rw [← HOUT.out.2.2, HE.out]; rfl), Below.dr HB.out HB.out.size _⟩
        · have HN := Lib.hid ((atD_next (acc := acc) HKL.out (by rw [HG.out]; exact h34) hvm hm0).symm.trans HR.out)
          have mz : ((m : Int) == 0) = false := beq_eq_false_iff_ne.2 (by omega)
          have mz' : ¬ (m : Int) = 0 := by omega
          clear hvm h34
          obtain ⟨YS, hYS⟩ : ∃ YS, YS = acc.map encB := ⟨_, rfl⟩
          rw [← hYS] at hown
          have HYS := Lib.hid hYS
          clear hYS
          obtain ⟨al, hal⟩ : ∃ al, acc.length = al := ⟨_, rfl⟩
          have hal2 : al ≤ n := by omega
          rw [hal] at hown
          have HAL := Lib.hid hal
          have HAK : Hid (al ≤ k) := Lib.hid (by omega)
          clear hal hak
          have kmw : IntKind.i64.wrap ((k : Int) + (m : Int)) = (k : Int) + (m : Int) := IntWalk.i64_in _ (by omega)
          have HKM := Lib.hid kmw
          go_wp2_with (first
            | (go_at_call 87; refine (HC.out _).mono ?_; rintro e w' ⟨rfl, z, rfl⟩)
            | (at_builtin; refine wpList_append_own _ rfl _ _ 36 rfl w.heap.size 5 i0 _ 1 1 Tryz.underlying36 hi hz0 hz1 hz2 rfl (by decide) _ _ _ rfl ((owns_drewN hown z).alloc _) ⟨wr.heap.size, 0, none⟩ 1 1 [.int .u8 (v.toNat : Int)] rfl rfl ?c1 ?c2 ?c3 ?c4 ?c5 ?_))
          case c1 => exact cells_new (wr.drewN z) _ _
          case c2 => exact one_one _
          case c3 => unfold maxLen; omega
          case c4 => omega
          case c5 => have := HB.out.size; simp; omega
          · intro v' w2 hown' hgrow hnil
            have HW2 := Lib.hid hown'
            have HG2 := Lib.hid hgrow
            have HOy := Lib.hid hown
            clear hown' hgrow hown hnil
            go_wp2
            go_roundw
            case measure => have := HKM.out; simp [intOf]; omega
            case rel =>
              refine ⟨k + m, acc ++ [v], by omega, by rw [List.length_append, HAL.out]; show al + 1 ≤ _; have := HAK.out; omega, by go_num, ?_, ?_, HN⟩
              · rw [map_snoc, List.length_append, HAL.out, ← HYS.out]; exact HW2.out
              · refine ((Below.dr HB.out HB.out.size z).alloc (by show _ ≤ wr.heap.size; exact HB.out.size) _).grown HG2.out (by have := HB.out.size; simp; omega) ?_
                intro q hq
                exact (HOy.out.lt q hq).1
    · obtain rfl : k = n := by omega
      have hkn : ((k : Int) == (s.size : Int)) = true := by rw [hn]; exact beq_self_eq_true _
      have HE := Lib.hid (HR.out.symm.trans (atD_out (acc := acc) (by rw [HLEN.out, hn]; exact Nat.le_refl _)))
      go_wp2
      go_ret3
      exact ⟨ret_sii (bytes_ext (by rw [← HOUT.out.1, HE.out]; rfl)) (by rw [← HOUT.out.2.1, HE.out]; rfl) (by rw [← HOUT.out.2.2, HE.out]; rfl), HB.out⟩
end Go.Proofs.YtemndagaicamiaaGreatDoor
namespace Go.Proofs.YtemndagaicamiaaGreatDoor
open Go.RowKit Go.Sort
open Q6
set_option linter.unusedVariables false
theorem printable_q (c : UInt8) (b : Bool) (w : World) (h : good c = b) : Calls Tryz.prog 54 #[.int .u8 c.toNat] w fun e w' => e = .returned (.bool b) ∧ w = w' := by
  subst h; exact printable_any c w
theorem prefix_q (s : ByteArray) (l : List UInt8) (b : Bool) (w : World) (hl : s.data.toList = l) (h : Lib.hasPrefix l [39, 39] = b) :
    Calls Tryz.prog 61 #[.string s, .string ⟨#[39, 39]⟩] w fun e w' => e = .returned (.bool b) ∧ w = w' := by
  subst hl; subst h
  exact (Tryz.strings_HasPrefix s ⟨#[39, 39]⟩ w).mono fun e w' ⟨h1, h2⟩ => ⟨h1, h2.symm⟩
theorem prefix_two {l : List UInt8} {k : Nat} (h : k < l.length) (hc : l.getD k 0 = 39) (h1 : k + 1 < l.length) (hd : l.getD (k + 1) 0 = 39) : Lib.hasPrefix (l.drop k) [39, 39] = true := by
  rw [drop_cons h, drop_cons h1, hc, hd]; simp [Lib.hasPrefix, List.isPrefixOf]
theorem prefix_not {l : List UInt8} {k : Nat} (h : k < l.length) (hd : ¬ (k + 1 < l.length ∧ l.getD (k + 1) 0 = 39)) : Lib.hasPrefix (l.drop k) [39, 39] = false := by
  rw [drop_cons h]
  by_cases h1 : k + 1 < l.length
  · rw [drop_cons h1]
    have hd' : l.getD (k + 1) 0 ≠ 39 := fun e => hd ⟨h1, e⟩
    have hb : ((39 : UInt8) == l.getD (k + 1) 0) = false := beq_eq_false_iff_ne.2 (Ne.symm hd')
    simp only [Lib.hasPrefix, List.isPrefixOf, hb, Bool.false_and, Bool.and_false]
  · rw [List.drop_of_length_le (by omega)]
    simp [Lib.hasPrefix, List.isPrefixOf]
theorem good39 : good 39 = true := by decide
set_option maxHeartbeats 4000000 in
theorem scanSingle_any (s : ByteArray) (k0 : Nat) (w : World) (hs : s.size ≤ 1000000) (hk0 : k0 ≤ s.size) (q : ByteArray) (x y : Int)
    (hq : outV (atS s.data.toList [] k0) = q.data.toList) (hx : outN (atS s.data.toList [] k0) = x) (hy : outE (atS s.data.toList [] k0) = y) :
    Calls Tryz.prog 70 #[.string s, .int .i64 (k0 : Int)] w fun e w' => e = .returned (.tuple #[.string q, .int .i64 x, .int .i64 y]) ∧ Below w.heap.size w w' := by
  obtain ⟨i0, hi, hz0, hz1, hz2⟩ := infoB
  have HOUT : Hid (outV (atS s.data.toList [] k0) = q.data.toList ∧ outN (atS s.data.toList [] k0) = x ∧ outE (atS s.data.toList [] k0) = y) := Lib.hid ⟨hq, hx, hy⟩
  clear hq hx hy
  obtain ⟨R, hR⟩ : ∃ R, atS s.data.toList [] k0 = R := ⟨_, rfl⟩
  rw [hR] at HOUT
  have HR0 := Lib.hid hR
  clear hR
  have HLEN := Lib.hid (len_eq s)
  have HO1 := Lib.hid (owns_nil w w.heap.size 5)
  obtain ⟨n, hn⟩ : ∃ n, s.size = n := ⟨_, rfl⟩
  have hsn : n ≤ 1000000 := by omega
  go_enter Tryz.func70, Tryz.ntmps70
  go_wp2
  go_loopw [1, 7] (fun si sv wr => ∃ (k : Nat) (acc : List UInt8), k ≤ n ∧ acc.length ≤ k ∧ si = .int .i64 (k : Int) ∧ wr.ownsRow w.heap.size 5 1 sv acc.length (acc.map encB) ∧ Below w.heap.size w wr ∧ Hid (atS s.data.toList acc k = R)) (fun si _ _ => n - (intOf si).toNat)
  case atStart => exact ⟨k0, [], by omega, Nat.zero_le _, rfl, HO1.out, Below.refl _ _, HR0⟩
  case round =>
    clear HO1 HR0
    obtain ⟨k, acc, hk, hak, rfl, hown, hbel, HR⟩ := hrel
    have HO := Lib.hid hown
    have HB := Lib.hid hbel
    clear hbel
    by_cases hlt : k < n
    · have hks : k < s.size := by omega
      have hkl : k < s.data.toList.length := by rw [HLEN.out]; exact hks
      have hskz : (k : Int) < (n : Int) := by omega
      have hg : s.data.toList.getD k 0 = s[k]'hks := getd s k hks
      obtain ⟨c, hc⟩ : ∃ c, s[k]'hks = c := ⟨_, rfl⟩
      rw [hc] at hg
      have HG := Lib.hid hg
      have HKL := Lib.hid hkl
      clear hg hkl
      rcases Bool.eq_false_or_eq_true (good c) with hgd | hgd
      · have HP := Lib.hid hgd
        clear hgd
        by_cases h39 : c = 39
        · have m39 : ((c.toNat : Int) == 39) = true := by rw [isC_beq 39 c 39 rfl, isC_iff.2 h39]
          by_cases h2 : k + 1 < s.data.toList.length ∧ s.data.toList.getD (k + 1) 0 = 39
          · have hkn1 : k + 1 < n := by have := h2.1; rw [HLEN.out] at this; omega
            have hks1 : k + 1 < s.size := by omega
            have hk1z : (k : Int) + 1 < (n : Int) := by omega
            have hg1 : s.data.toList.getD (k + 1) 0 = s[k + 1]'hks1 := getd s (k + 1) hks1
            have hc1 : s[k + 1]'hks1 = 39 := by rw [← hg1]; exact h2.2
            have HN := Lib.hid ((atS_two (acc := acc) h2.1 (HG.out.trans h39) h2.2).symm.trans HR.out)
            have hC := prefix_q (s.extract k s.size) (s.data.toList.drop k) true
            have hC2 := fun w0 => hC w0 (rest_data s k) (prefix_two HKL.out (HG.out.trans h39) h2.1 h2.2)
            rw [hn] at hC2
            have HC := Lib.hid hC2
            clear hC hC2 h2 h39 hg1
            obtain ⟨YS, hYS⟩ : ∃ YS, YS = acc.map encB := ⟨_, rfl⟩
            rw [← hYS] at hown
            have HYS := Lib.hid hYS
            clear hYS
            obtain ⟨al, hal⟩ : ∃ al, acc.length = al := ⟨_, rfl⟩
            have hal2 : al ≤ n := by omega
            rw [hal] at hown
            have HAL := Lib.hid hal
            have HAK : Hid (al ≤ k) := Lib.hid (by omega)
            clear hal hak
            go_wp2_with (first
              | (go_at_call 54; refine (printable_q c true _ HP.out).mono ?_; rintro e w' ⟨rfl, rfl⟩)
              | (go_at_call 61; refine (HC.out _).mono ?_; rintro e w' ⟨rfl, rfl⟩)
              | (at_builtin; refine wpList_append_own _ rfl _ _ 36 rfl w.heap.size 5 i0 _ 1 1 Tryz.underlying36 hi hz0 hz1 hz2 rfl (by decide) _ _ _ rfl (hown.alloc _) ⟨wr.heap.size, 0, none⟩ 1 1 [.int .u8 39] rfl rfl ?c1 ?c2 ?c3 ?c4 ?c5 ?_))
            case c1 => exact cells_new wr _ _
            case c2 => exact one_one _
            case c3 => unfold maxLen; omega
            case c4 => omega
            case c5 => have := HB.out.size; simp; omega
            · intro v' w2 hown' hgrow hnil
              have HW2 := Lib.hid hown'
              have HG2 := Lib.hid hgrow
              have HOy := Lib.hid hown
              clear hown' hgrow hown hnil
              go_wp2
              go_roundw
              case measure => simp [intOf]; omega
              case rel =>
                refine ⟨k + 2, acc ++ [39], by omega, by rw [List.length_append, HAL.out]; show al + 1 ≤ _; have := HAK.out; omega, by go_num, ?_, ?_, HN⟩
                · rw [map_snoc, List.length_append, HAL.out, ← HYS.out]; exact HW2.out
                · refine (HB.out.alloc HB.out.size _).grown HG2.out (by have := HB.out.size; simp; omega) ?_
                  intro q hq
                  exact (HOy.out.lt q hq).1
          · have HE := Lib.hid (HR.out.symm.trans (atS_end (acc := acc) HKL.out (HG.out.trans h39) h2))
            have hC := prefix_q (s.extract k s.size) (s.data.toList.drop k) false
            have hC2 := fun w0 => hC w0 (rest_data s k) (prefix_not HKL.out h2)
            rw [hn] at hC2
            have HC := Lib.hid hC2
            clear hC hC2 h2 h39
            rcases own_cases hown with ⟨hv, hA⟩ | ⟨g, cap, hv2, hcv⟩
            · subst hv
              have HA := Lib.hid hA
              clear hown hA
              have hcv := conv_nil wr
              go_wp2_with (first
                | (go_at_call 54; refine (printable_q c true _ HP.out).mono ?_; rintro e w' ⟨rfl, rfl⟩)
                | (go_at_call 61; refine (HC.out _).mono ?_; rintro e w' ⟨rfl, rfl⟩))
              go_ret3
              exact ⟨ret_sii (bytes_ext (by rw [← HOUT.out.1, HE.out, HA.out]; rfl)) (by rw [← HOUT.out.2.1, HE.out]; rfl) (by rw [← HOUT.out.2.2, HE.out]; rfl), HB.out⟩
            · subst hv2
              clear hown
              obtain ⟨A, hA⟩ : ∃ A : ByteArray, A = ⟨acc.toArray⟩ := ⟨_, rfl⟩
              rw [← hA] at hcv
              have HA := Lib.hid hA
              clear hA
              go_wp2_with (first
                | (go_at_call 54; refine (printable_q c true _ HP.out).mono ?_; rintro e w' ⟨rfl, rfl⟩)
                | (go_at_call 61; refine (HC.out _).mono ?_; rintro e w' ⟨rfl, rfl⟩))
              go_ret3
              exact ⟨ret_sii (by rw [HA.out]; exact bytes_ext (by rw [← HOUT.out.1, HE.out]; rfl)) (by rw [← HOUT.out.2.1, HE.out]; rfl) (by rw [← HOUT.out.2.2, HE.out]; rfl), HB.out⟩
        · have m39 : ((c.toNat : Int) == 39) = false := by rw [isC_beq 39 c 39 rfl]; exact Bool.eq_false_iff.2 (fun e => h39 (isC_iff.1 e))
          have HN := Lib.hid ((atS_next (acc := acc) HKL.out (by rw [HG.out]; exact HP.out) (by rw [HG.out]; exact h39)).symm.trans HR.out)
          rw [HG.out] at HN
          clear h39
          obtain ⟨YS, hYS⟩ : ∃ YS, YS = acc.map encB := ⟨_, rfl⟩
          rw [← hYS] at hown
          have HYS := Lib.hid hYS
          clear hYS
          obtain ⟨al, hal⟩ : ∃ al, acc.length = al := ⟨_, rfl⟩
          have hal2 : al ≤ n := by omega
          rw [hal] at hown
          have HAL := Lib.hid hal
          have HAK : Hid (al ≤ k) := Lib.hid (by omega)
          clear hal hak
          go_wp2_with (first
            | (go_at_call 54; refine (printable_q c true _ HP.out).mono ?_; rintro e w' ⟨rfl, rfl⟩)
            | (at_builtin; refine wpList_append_own _ rfl _ _ 36 rfl w.heap.size 5 i0 _ 1 1 Tryz.underlying36 hi hz0 hz1 hz2 rfl (by decide) _ _ _ rfl (hown.alloc _) ⟨wr.heap.size, 0, none⟩ 1 1 [.int .u8 (c.toNat : Int)] rfl rfl ?c1 ?c2 ?c3 ?c4 ?c5 ?_))
          case c1 => exact cells_new wr _ _
          case c2 => exact one_one _
          case c3 => unfold maxLen; omega
          case c4 => omega
          case c5 => have := HB.out.size; simp; omega
          · intro v' w2 hown' hgrow hnil
            have HW2 := Lib.hid hown'
            have HG2 := Lib.hid hgrow
            have HOy := Lib.hid hown
            clear hown' hgrow hown hnil
            go_wp2
            go_roundw
            case measure => simp [intOf]; omega
            case rel =>
              refine ⟨k + 1, acc ++ [c], by omega, by rw [List.length_append, HAL.out]; show al + 1 ≤ _; have := HAK.out; omega, by go_num, ?_, ?_, HN⟩
              · rw [map_snoc, List.length_append, HAL.out, ← HYS.out]; exact HW2.out
              · refine (HB.out.alloc HB.out.size _).grown HG2.out (by have := HB.out.size; simp; omega) ?_
                intro q hq
                exact (HOy.out.lt q hq).1
      · have HP := Lib.hid hgd
        have HE := Lib.hid (HR.out.symm.trans (atS_bad (acc := acc) HKL.out (by rw [HG.out]; exact hgd)))
        clear hgd
        go_wp2_with (go_at_call 54; refine (printable_q c false _ HP.out).mono ?_; rintro e w' ⟨rfl, rfl⟩)
        go_ret3
        exact ⟨ret_sii (bytes_ext (by rw [← HOUT.out.1, HE.out]; rfl)) (by rw [← HOUT.out.2.1, HE.out]; rfl) (by rw [← HOUT.out.2.2, HE.out]; rfl), HB.out⟩
    · obtain rfl : k = n := by omega
      have HE := Lib.hid (HR.out.symm.trans (atS_out (acc := acc) (by rw [HLEN.out, hn]; exact Nat.le_refl _)))
      go_wp2
      go_ret3
      exact ⟨ret_sii (bytes_ext (by rw [← HOUT.out.1, HE.out]; rfl)) (by rw [← HOUT.out.2.1, HE.out]; rfl) (by rw [← HOUT.out.2.2, HE.out]; rfl), HB.out⟩
end Go.Proofs.YtemndagaicamiaaGreatDoor
namespace Go.Proofs.YtemndagaicamiaaGreatDoor
open Go.RowKit Go.Sort
open Q6
set_option linter.unusedVariables false
/-- append to a slice of the call's own, as one step of a region that draws. -/
theorem step_append_own {P : Program} {ops : Array Oper} {o : Oper} {a : Act} {w : World} {K : Act → World → Prop} {Q : Exit → Act → World → Prop} {E : Prop} (hg : o.guard = none) (s x : Operand) (t : TypeId)
    (ho : o.op = .call { callee := .builtin .append, args := #[s, x], argTypes := #[t, t] })
    (base : Nat) (e : TypeId) (i : TypeInfo) (z : Value) (size bytes : Nat) (ht : P.underlying t = some (.slice e)) (hi : P.info? e = some i) (hz : i.zero = some z)
    (hsize : i.size = size) (hby : i.bytes = bytes) (hzs : z.cells.size = size) (hsz : 0 < size)
    (v : Value) (n : Nat) (xs : List Value) (hs : a.eval s = v) (hown : w.ownsRow base e size v n xs)
    (ad : Addr) (m c : Nat) (news : List Value) (hx : a.eval x = .slice (some ad) m c) (hl : news.length = m * size) (hnews : ∀ j u, news[j]? = some u → w.cell? (ad.add j) = some u) (h1 : ∀ u ∈ news, u.oneCell' = true)
    (h63 : n + m ≤ maxLen) (hbytes : (n + m) * bytes ≤ 140737488355328) (hbase : base ≤ w.heap.size)
    (h : ∀ v' w', w'.ownsRow base e size v' (n + m) (xs ++ news) → w.grownBy w' v.ownBlock → (v' = .slice none 0 0 ↔ v = .slice none 0 0 ∧ m = 0) → K (a.put o.dst v') w') :
    if Region.wanted o (yielded ops a.tmps) = true then Oper.wp P o a w K Q else E := by
  rw [if_pos (by simp [Region.wanted, hg])]
  exact wp_append_own w s x t ho base e i z size bytes ht hi hz hsize hby hzs hsz v n xs hs hown ad m c news hx hl hnews h1 h63 hbytes hbase h
theorem dig_at (x : Nat) (h : x < 16) : (⟨#[48, 49, 50, 51, 52, 53, 54, 55, 56, 57, 97, 98, 99, 100, 101, 102]⟩ : ByteArray)[x]'h = dg x := by
  have hx : x = 0 ∨ x = 1 ∨ x = 2 ∨ x = 3 ∨ x = 4 ∨ x = 5 ∨ x = 6 ∨ x = 7 ∨ x = 8 ∨ x = 9 ∨ x = 10 ∨ x = 11 ∨ x = 12 ∨ x = 13 ∨ x = 14 ∨ x = 15 := by omega
  rcases hx with rfl | rfl | rfl | rfl | rfl | rfl | rfl | rfl | rfl | rfl | rfl | rfl | rfl | rfl | rfl | rfl <;> rfl
theorem u8_and15 : ∀ x : Fin 256, bits .and .u8 (x.val : Int) 15 = ((x.val % 16 : Nat) : Int) := by decide +kernel
theorem esc_own {w w' : World} {base n m : Nat} {v v' : Value} {l E : List UInt8} {ys : List Value} (hown : w.ownsRow base 5 1 v n (l.map encB)) (hw : w'.ownsRow base 5 1 v' (n + m) (l.map encB ++ ys)) (hE : E.map encB = ys) (hm : E.length = m) :
    w'.ownsRow base 5 1 v' (l ++ E).length ((l ++ E).map encB) := by
  rw [List.map_append, hE, List.length_append, own_len hown, hm]; exact hw
set_option maxHeartbeats 1600000 in
theorem appesc_quo (v : Value) (l : List UInt8) (n : Nat) (c : UInt8) (base : Nat) (w : World) (hown : w.ownsRow base 5 1 v n (l.map encB)) (hb : base ≤ w.heap.size) (hn : n ≤ 8000000) (h1 : c = 34 ∨ c = 92) :
    Calls Tryz.prog 56 #[v, .int .u8 c.toNat] w fun e w' => ∃ v', e = .returned v' ∧ w'.ownsRow base 5 1 v' (l ++ esc c).length ((l ++ esc c).map encB) ∧ Below base w w' ∧ v' ≠ .slice none 0 0 := by
  obtain ⟨i0, hi, hz0, hz1, hz2⟩ := infoB
  have HE : Hid (esc c = [92, c]) := Lib.hid (by unfold esc; rw [if_pos h1])
  rcases Bool.eq_false_or_eq_true (isC 34 c) with h34 | h34
  · have m34 : ((c.toNat : Int) == 34) = true := by rw [isC_beq 34 c 34 rfl]; exact h34
    obtain ⟨YS, hYS⟩ : ∃ YS, YS = l.map encB := ⟨_, rfl⟩
    have HOl := Lib.hid hown
    rw [← hYS] at hown
    have HYS := Lib.hid hYS
    clear h1 h34 hYS
    go_enter Tryz.func56, Tryz.ntmps56
    go_wp2_with (first | (at_builtin; refine wpList_append_own _ rfl _ _ 36 rfl base 5 i0 _ 1 1 Tryz.underlying36 hi hz0 hz1 hz2 rfl (by decide) _ _ _ rfl (hown.alloc _) ⟨w.heap.size, 0, none⟩ 2 2 [.int .u8 92, .int .u8 (c.toNat : Int)] rfl rfl ?c1 ?c2 ?c3 ?c4 ?c5 ?_))
    case c1 => exact cells_new w _ _
    case c2 => exact two_one _ _
    case c3 => unfold maxLen; omega
    case c4 => omega
    case c5 => simp; omega
    · intro v' w2 hown' hgrow hnil
      have HW2 := Lib.hid hown'
      have HG2 := Lib.hid hgrow
      have HNil := Lib.hid hnil
      have HOy := Lib.hid hown
      clear hown' hgrow hown hnil
      go_wp2
      go_ret
      refine ⟨_, rfl, esc_own (m := 2) HOl.out (by rw [← HYS.out]; exact HW2.out) (by rw [HE.out]; rfl) (by rw [HE.out]; rfl), ?_, fun e => by first | exact HNil.out e | exact absurd (HNil.out.1 e).2 (by decide)⟩
      refine (((Below.refl base w).alloc hb _)).grown HG2.out (by simp; omega) ?_
      intro q hq
      exact (HOy.out.lt q hq).1
  · have m34 : ((c.toNat : Int) == 34) = false := by rw [isC_beq 34 c 34 rfl]; exact h34
    have m92 : ((c.toNat : Int) == 92) = true := by rw [isC_beq 92 c 92 rfl]; exact isC_iff.2 (h1.resolve_left (fun e => by rw [isC_iff.2 e] at h34; cases h34))
    obtain ⟨YS, hYS⟩ : ∃ YS, YS = l.map encB := ⟨_, rfl⟩
    have HOl := Lib.hid hown
    rw [← hYS] at hown
    have HYS := Lib.hid hYS
    clear h1 h34 hYS
    go_enter Tryz.func56, Tryz.ntmps56
    go_wp2_with (first | (at_builtin; refine wpList_append_own _ rfl _ _ 36 rfl base 5 i0 _ 1 1 Tryz.underlying36 hi hz0 hz1 hz2 rfl (by decide) _ _ _ rfl (hown.alloc _) ⟨w.heap.size, 0, none⟩ 2 2 [.int .u8 92, .int .u8 (c.toNat : Int)] rfl rfl ?c1 ?c2 ?c3 ?c4 ?c5 ?_))
    case c1 => exact cells_new w _ _
    case c2 => exact two_one _ _
    case c3 => unfold maxLen; omega
    case c4 => omega
    case c5 => simp; omega
    · intro v' w2 hown' hgrow hnil
      have HW2 := Lib.hid hown'
      have HG2 := Lib.hid hgrow
      have HNil := Lib.hid hnil
      have HOy := Lib.hid hown
      clear hown' hgrow hown hnil
      go_wp2
      go_ret
      refine ⟨_, rfl, esc_own (m := 2) HOl.out (by rw [← HYS.out]; exact HW2.out) (by rw [HE.out]; rfl) (by rw [HE.out]; rfl), ?_, fun e => by first | exact HNil.out e | exact absurd (HNil.out.1 e).2 (by decide)⟩
      refine (((Below.refl base w).alloc hb _)).grown HG2.out (by simp; omega) ?_
      intro q hq
      exact (HOy.out.lt q hq).1
set_option maxHeartbeats 1600000 in
theorem appesc_nl (v : Value) (l : List UInt8) (n : Nat) (c : UInt8) (base : Nat) (w : World) (hown : w.ownsRow base 5 1 v n (l.map encB)) (hb : base ≤ w.heap.size) (hn : n ≤ 8000000) (h1 : c = 10) :
    Calls Tryz.prog 56 #[v, .int .u8 c.toNat] w fun e w' => ∃ v', e = .returned v' ∧ w'.ownsRow base 5 1 v' (l ++ esc c).length ((l ++ esc c).map encB) ∧ Below base w w' ∧ v' ≠ .slice none 0 0 := by
  obtain ⟨i0, hi, hz0, hz1, hz2⟩ := infoB
  have HE : Hid (esc c = [92, 110]) := Lib.hid (by subst h1; rfl)
  have m34 : ((c.toNat : Int) == 34) = false := by rw [isC_beq 34 c 34 rfl]; exact Bool.eq_false_iff.2 (fun e => absurd (h1.symm.trans (isC_iff.1 e)) (by decide))
  have m92 : ((c.toNat : Int) == 92) = false := by rw [isC_beq 92 c 92 rfl]; exact Bool.eq_false_iff.2 (fun e => absurd (h1.symm.trans (isC_iff.1 e)) (by decide))
  have m10 : ((c.toNat : Int) == 10) = true := by rw [isC_beq 10 c 10 rfl]; exact isC_iff.2 h1
  obtain ⟨YS, hYS⟩ : ∃ YS, YS = l.map encB := ⟨_, rfl⟩
  have HOl := Lib.hid hown
  rw [← hYS] at hown
  have HYS := Lib.hid hYS
  clear h1 hYS
  go_enter Tryz.func56, Tryz.ntmps56
  go_wp2_with (first | (at_builtin; refine wpList_append_own _ rfl _ _ 36 rfl base 5 i0 _ 1 1 Tryz.underlying36 hi hz0 hz1 hz2 rfl (by decide) _ _ _ rfl (hown.alloc _) ⟨w.heap.size, 0, none⟩ 2 2 [.int .u8 92, .int .u8 110] rfl rfl ?c1 ?c2 ?c3 ?c4 ?c5 ?_))
  case c1 => exact cells_new w _ _
  case c2 => exact two_one _ _
  case c3 => unfold maxLen; omega
  case c4 => omega
  case c5 => simp; omega
  · intro v' w2 hown' hgrow hnil
    have HW2 := Lib.hid hown'
    have HG2 := Lib.hid hgrow
    have HNil := Lib.hid hnil
    have HOy := Lib.hid hown
    clear hown' hgrow hown hnil
    go_wp2
    go_ret
    refine ⟨_, rfl, esc_own (m := 2) HOl.out (by rw [← HYS.out]; exact HW2.out) (by rw [HE.out]; rfl) (by rw [HE.out]; rfl), ?_, fun e => by first | exact HNil.out e | exact absurd (HNil.out.1 e).2 (by decide)⟩
    refine (((Below.refl base w).alloc hb _)).grown HG2.out (by simp; omega) ?_
    intro q hq
    exact (HOy.out.lt q hq).1
set_option maxHeartbeats 1600000 in
theorem appesc_tab (v : Value) (l : List UInt8) (n : Nat) (c : UInt8) (base : Nat) (w : World) (hown : w.ownsRow base 5 1 v n (l.map encB)) (hb : base ≤ w.heap.size) (hn : n ≤ 8000000) (h1 : c = 9) :
    Calls Tryz.prog 56 #[v, .int .u8 c.toNat] w fun e w' => ∃ v', e = .returned v' ∧ w'.ownsRow base 5 1 v' (l ++ esc c).length ((l ++ esc c).map encB) ∧ Below base w w' ∧ v' ≠ .slice none 0 0 := by
  obtain ⟨i0, hi, hz0, hz1, hz2⟩ := infoB
  have HE : Hid (esc c = [92, 116]) := Lib.hid (by subst h1; rfl)
  have m34 : ((c.toNat : Int) == 34) = false := by rw [isC_beq 34 c 34 rfl]; exact Bool.eq_false_iff.2 (fun e => absurd (h1.symm.trans (isC_iff.1 e)) (by decide))
  have m92 : ((c.toNat : Int) == 92) = false := by rw [isC_beq 92 c 92 rfl]; exact Bool.eq_false_iff.2 (fun e => absurd (h1.symm.trans (isC_iff.1 e)) (by decide))
  have m10 : ((c.toNat : Int) == 10) = false := by rw [isC_beq 10 c 10 rfl]; exact Bool.eq_false_iff.2 (fun e => absurd (h1.symm.trans (isC_iff.1 e)) (by decide))
  have m9 : ((c.toNat : Int) == 9) = true := by rw [isC_beq 9 c 9 rfl]; exact isC_iff.2 h1
  obtain ⟨YS, hYS⟩ : ∃ YS, YS = l.map encB := ⟨_, rfl⟩
  have HOl := Lib.hid hown
  rw [← hYS] at hown
  have HYS := Lib.hid hYS
  clear h1 hYS
  go_enter Tryz.func56, Tryz.ntmps56
  go_wp2_with (first | (at_builtin; refine wpList_append_own _ rfl _ _ 36 rfl base 5 i0 _ 1 1 Tryz.underlying36 hi hz0 hz1 hz2 rfl (by decide) _ _ _ rfl (hown.alloc _) ⟨w.heap.size, 0, none⟩ 2 2 [.int .u8 92, .int .u8 116] rfl rfl ?c1 ?c2 ?c3 ?c4 ?c5 ?_))
  case c1 => exact cells_new w _ _
  case c2 => exact two_one _ _
  case c3 => unfold maxLen; omega
  case c4 => omega
  case c5 => simp; omega
  · intro v' w2 hown' hgrow hnil
    have HW2 := Lib.hid hown'
    have HG2 := Lib.hid hgrow
    have HNil := Lib.hid hnil
    have HOy := Lib.hid hown
    clear hown' hgrow hown hnil
    go_wp2
    go_ret
    refine ⟨_, rfl, esc_own (m := 2) HOl.out (by rw [← HYS.out]; exact HW2.out) (by rw [HE.out]; rfl) (by rw [HE.out]; rfl), ?_, fun e => by first | exact HNil.out e | exact absurd (HNil.out.1 e).2 (by decide)⟩
    refine (((Below.refl base w).alloc hb _)).grown HG2.out (by simp; omega) ?_
    intro q hq
    exact (HOy.out.lt q hq).1
set_option maxHeartbeats 1600000 in
theorem appesc_good (v : Value) (l : List UInt8) (n : Nat) (c : UInt8) (base : Nat) (w : World) (hown : w.ownsRow base 5 1 v n (l.map encB)) (hb : base ≤ w.heap.size) (hn : n ≤ 8000000) (h1 : ¬ (c = 34 ∨ c = 92)) (h2 : c ≠ 10) (h3 : c ≠ 9) (h4 : good c = true) :
    Calls Tryz.prog 56 #[v, .int .u8 c.toNat] w fun e w' => ∃ v', e = .returned v' ∧ w'.ownsRow base 5 1 v' (l ++ esc c).length ((l ++ esc c).map encB) ∧ Below base w w' ∧ v' ≠ .slice none 0 0 := by
  obtain ⟨i0, hi, hz0, hz1, hz2⟩ := infoB
  have HE : Hid (esc c = [c]) := Lib.hid (by unfold esc; rw [if_neg h1, if_neg h2, if_neg h3, if_pos h4])
  have m34 : ((c.toNat : Int) == 34) = false := by rw [isC_beq 34 c 34 rfl]; exact Bool.eq_false_iff.2 (fun e => h1 (.inl (isC_iff.1 e)))
  have m92 : ((c.toNat : Int) == 92) = false := by rw [isC_beq 92 c 92 rfl]; exact Bool.eq_false_iff.2 (fun e => h1 (.inr (isC_iff.1 e)))
  have m10 : ((c.toNat : Int) == 10) = false := by rw [isC_beq 10 c 10 rfl]; exact Bool.eq_false_iff.2 (fun e => h2 (isC_iff.1 e))
  have m9 : ((c.toNat : Int) == 9) = false := by rw [isC_beq 9 c 9 rfl]; exact Bool.eq_false_iff.2 (fun e => h3 (isC_iff.1 e))
  have HP := Lib.hid h4
  obtain ⟨YS, hYS⟩ : ∃ YS, YS = l.map encB := ⟨_, rfl⟩
  have HOl := Lib.hid hown
  rw [← hYS] at hown
  have HYS := Lib.hid hYS
  clear h1 h2 h3 h4 hYS
  go_enter Tryz.func56, Tryz.ntmps56
  go_wp2_with (first | (go_at_call 54; refine (printable_q c true _ HP.out).mono ?_; rintro e w' ⟨rfl, rfl⟩) | (at_builtin; refine wpList_append_own _ rfl _ _ 36 rfl base 5 i0 _ 1 1 Tryz.underlying36 hi hz0 hz1 hz2 rfl (by decide) _ _ _ rfl (hown.alloc _) ⟨w.heap.size, 0, none⟩ 1 1 [.int .u8 (c.toNat : Int)] rfl rfl ?c1 ?c2 ?c3 ?c4 ?c5 ?_))
  case c1 => exact cells_new w _ _
  case c2 => exact one_one _
  case c3 => unfold maxLen; omega
  case c4 => omega
  case c5 => simp; omega
  · intro v' w2 hown' hgrow hnil
    have HW2 := Lib.hid hown'
    have HG2 := Lib.hid hgrow
    have HNil := Lib.hid hnil
    have HOy := Lib.hid hown
    clear hown' hgrow hown hnil
    go_wp2
    go_ret
    refine ⟨_, rfl, esc_own (m := 1) HOl.out (by rw [← HYS.out]; exact HW2.out) (by rw [HE.out]; rfl) (by rw [HE.out]; rfl), ?_, fun e => by first | exact HNil.out e | exact absurd (HNil.out.1 e).2 (by decide)⟩
    refine (((Below.refl base w).alloc hb _)).grown HG2.out (by simp; omega) ?_
    intro q hq
    exact (HOy.out.lt q hq).1
set_option maxHeartbeats 1600000 in
theorem appesc_hex (v : Value) (l : List UInt8) (n : Nat) (c : UInt8) (base : Nat) (w : World) (hown : w.ownsRow base 5 1 v n (l.map encB)) (hb : base ≤ w.heap.size) (hn : n ≤ 8000000) (h1 : ¬ (c = 34 ∨ c = 92)) (h2 : c ≠ 10) (h3 : c ≠ 9) (h4 : good c = false) :
    Calls Tryz.prog 56 #[v, .int .u8 c.toNat] w fun e w' => ∃ v', e = .returned v' ∧ w'.ownsRow base 5 1 v' (l ++ esc c).length ((l ++ esc c).map encB) ∧ Below base w w' ∧ v' ≠ .slice none 0 0 := by
  obtain ⟨i0, hi, hz0, hz1, hz2⟩ := infoB
  have HE : Hid (esc c = [92, 120, dg (c.toNat / 16), dg (c.toNat % 16)]) := Lib.hid (by unfold esc; rw [if_neg h1, if_neg h2, if_neg h3, if_neg (by rw [h4]; decide)])
  have m34 : ((c.toNat : Int) == 34) = false := by rw [isC_beq 34 c 34 rfl]; exact Bool.eq_false_iff.2 (fun e => h1 (.inl (isC_iff.1 e)))
  have m92 : ((c.toNat : Int) == 92) = false := by rw [isC_beq 92 c 92 rfl]; exact Bool.eq_false_iff.2 (fun e => h1 (.inr (isC_iff.1 e)))
  have m10 : ((c.toNat : Int) == 10) = false := by rw [isC_beq 10 c 10 rfl]; exact Bool.eq_false_iff.2 (fun e => h2 (isC_iff.1 e))
  have m9 : ((c.toNat : Int) == 9) = false := by rw [isC_beq 9 c 9 rfl]; exact Bool.eq_false_iff.2 (fun e => h3 (isC_iff.1 e))
  have HP := Lib.hid h4
  have q0 := c.toNat_lt
  have HAnd := Lib.hid (u8_and15 ⟨c.toNat, q0⟩)
  obtain ⟨m, hm⟩ : ∃ m, c.toNat = m := ⟨_, rfl⟩
  have f1 : ((m : Nat) : Int) / 16 = ((m / 16 : Nat) : Int) := by omega
  have f2 : bits .and .u8 (m : Int) 15 = ((m % 16 : Nat) : Int) := by rw [← hm]; exact HAnd.out
  obtain ⟨u, hu⟩ : ∃ u, m / 16 = u := ⟨_, rfl⟩
  obtain ⟨lo, hl⟩ : ∃ lo, m % 16 = lo := ⟨_, rfl⟩
  rw [hu] at f1
  rw [hl] at f2
  have u16 : u < 16 := by omega
  have l16 : lo < 16 := by omega
  have du := dig_at u u16
  have dl := dig_at lo l16
  rw [hm, hu, hl] at HE
  have u16z : (u : Int) < 16 := by omega
  have l16z : (lo : Int) < 16 := by omega
  rw [hm] at m34 m92 m10 m9
  have HM := Lib.hid hm
  obtain ⟨cu, hcu⟩ : ∃ cu, dg u = cu := ⟨_, rfl⟩
  obtain ⟨cl, hcl⟩ : ∃ cl, dg lo = cl := ⟨_, rfl⟩
  rw [hcu] at du HE
  rw [hcl] at dl HE
  obtain ⟨YS, hYS⟩ : ∃ YS, YS = l.map encB := ⟨_, rfl⟩
  have HOl := Lib.hid hown
  rw [← hYS] at hown
  have HYS := Lib.hid hYS
  clear h1 h2 h3 h4 hm hu hl HAnd hcu hcl hYS
  have hcallP := fun w0 => printable_q c false w0 HP.out
  rw [HM.out] at hcallP
  have HCP := Lib.hid hcallP
  clear hcallP
  rw [show (c.toNat : Int) = (m : Int) by rw [HM.out]]
  go_enter Tryz.func56, Tryz.ntmps56
  go_wp2_with (go_at_call 54; refine (HCP.out _).mono ?_; rintro e w' ⟨rfl, rfl⟩)
  go_region_law (refine step_append_own rfl _ _ 36 rfl base 5 i0 _ 1 1 Tryz.underlying36 hi hz0 hz1 hz2 rfl (by decide) _ _ _ rfl ((owns_drew hown).alloc _) ⟨w.heap.size, 0, none⟩ 4 4 [.int .u8 92, .int .u8 120, .int .u8 ((cu).toNat : Int), .int .u8 ((cl).toNat : Int)] rfl rfl ?c1 ?c2 ?c3 ?c4 ?c5 ?_; (case c1 => exact cells_new w.drew _ _); (case c2 => exact four_one _ _ _ _); (case c3 => (unfold maxLen; omega)); (case c4 => omega); (case c5 => (simp; omega)); intro v' w2 hown' hgrow hnil)
  all_goals
    have HW2 := Lib.hid hown'
    have HG2 := Lib.hid hgrow
    have HNil := Lib.hid hnil
    have HOy := Lib.hid hown
    clear hown' hgrow hown hnil
    go_wp2
    go_ret
    refine ⟨_, rfl, esc_own (m := 4) HOl.out (by rw [← HYS.out]; exact HW2.out) (by rw [HE.out]; rfl) (by rw [HE.out]; rfl), ?_, fun e => by first | exact HNil.out e | exact absurd (HNil.out.1 e).2 (by decide)⟩
    refine (((Below.refl base w).drew.alloc hb _)).grown HG2.out (by simp; omega) ?_
    intro q hq
    exact (HOy.out.lt q hq).1
theorem appesc_any (v : Value) (l : List UInt8) (n : Nat) (c : UInt8) (base : Nat) (w : World) (hown : w.ownsRow base 5 1 v n (l.map encB)) (hb : base ≤ w.heap.size) (hn : n ≤ 8000000) :
    Calls Tryz.prog 56 #[v, .int .u8 c.toNat] w fun e w' => ∃ v', e = .returned v' ∧ w'.ownsRow base 5 1 v' (l ++ esc c).length ((l ++ esc c).map encB) ∧ Below base w w' ∧ v' ≠ .slice none 0 0 := by
  by_cases h1 : c = 34 ∨ c = 92
  · exact appesc_quo v l n c base w hown hb hn h1
  by_cases h2 : c = 10
  · exact appesc_nl v l n c base w hown hb hn h2
  by_cases h3 : c = 9
  · exact appesc_tab v l n c base w hown hb hn h3
  by_cases h4 : good c = true
  · exact appesc_good v l n c base w hown hb hn h1 h2 h3 h4
  · exact appesc_hex v l n c base w hown hb hn h1 h2 h3 (Bool.eq_false_iff.2 h4)
end Go.Proofs.YtemndagaicamiaaGreatDoor
namespace Go.Proofs.YtemndagaicamiaaGreatDoor
open Go.RowKit Go.Sort
open Q6
set_option linter.unusedVariables false
theorem esc_len (c : UInt8) : (esc c).length ≤ 4 := by
  unfold esc
  split
  · show 2 ≤ 4; decide
  · split
    · show 2 ≤ 4; decide
    · split
      · show 2 ≤ 4; decide
      · split
        · show 1 ≤ 4; decide
        · exact Nat.le_refl _
theorem escL_len (l : List UInt8) : (escL l).length ≤ 4 * l.length := by
  induction l with
  | nil => exact Nat.le_refl _
  | cons c l ih => rw [escL_cons, List.length_append, List.length_cons]; have := esc_len c; omega
theorem escL_app (l : List UInt8) (c : UInt8) : escL (l ++ [c]) = escL l ++ esc c := by
  induction l with
  | nil => show escL (c :: []) = _; rw [escL_cons]; show esc c ++ [] = [] ++ esc c; simp
  | cons b l ih => rw [List.cons_append, escL_cons, escL_cons, ih, List.append_assoc]
theorem take_snoc {l : List UInt8} {k : Nat} (h : k < l.length) : l.take (k + 1) = l.take k ++ [l.getD k 0] := by
  rw [List.take_succ_eq_append_getElem h, List.getD_eq_getElem?_getD, List.getElem?_eq_getElem h]; rfl
/-- What stands behind k bytes. -/
def accL (l : List UInt8) (k : Nat) : List UInt8 := 34 :: escL (l.take k)
theorem accL_snoc {l : List UInt8} {k : Nat} (h : k < l.length) : accL l (k + 1) = accL l k ++ esc (l.getD k 0) := by
  unfold accL; rw [take_snoc h, escL_app]; rfl
theorem accL_len (l : List UInt8) (k : Nat) : (accL l k).length ≤ 4 * l.length + 1 := by
  unfold accL
  rw [List.length_cons]
  have h1 := escL_len (l.take k)
  have h2 : (l.take k).length ≤ l.length := by rw [List.length_take]; exact Nat.min_le_right ..
  omega
theorem accL_end {l : List UInt8} {k : Nat} (h : l.length ≤ k) : accL l k ++ [34] = dblL l := by
  unfold accL dblL; rw [List.take_of_length_le h]
set_option maxHeartbeats 4000000 in
theorem Double_any (s : ByteArray) (w : World) (hs : s.size ≤ 1000000) (D : ByteArray) (hD : dblL s.data.toList = D.data.toList) :
    Calls Tryz.prog 36 #[.string s] w fun e w' => e = .returned (.string D) ∧ Below w.heap.size w w' := by
  obtain ⟨i0, hi, hz0, hz1, hz2⟩ := infoB
  have HD := Lib.hid hD
  clear hD
  obtain ⟨n, hn⟩ : ∃ n, s.size = n := ⟨_, rfl⟩
  have hlen : s.data.toList.length = n := by rw [← hn]; rfl
  have HLEN := Lib.hid hlen
  obtain ⟨w1, hmk, hown1, hgr1⟩ := run_make_own (P := Tryz.prog) w w.heap.size 36 5 i0 _ 1 Tryz.underlying36 hi hz0 hz1 .i64 .i64 (n + 2) (by rw [hz2]; omega) (by unfold maxLen; omega) (Nat.le_refl _)
  have hb1 : Below w.heap.size w w1 := (Below.refl _ _).grown hgr1 (Nat.le_refl _) (by intro p hp; cases hp)
  have HO1 := Lib.hid hown1
  have HB1 := Lib.hid hb1
  have h2n : ((n + 2 : Nat) : Int) = (n : Int) + 2 := by omega
  rw [h2n] at hmk
  clear hgr1 hb1 h2n hlen
  have hw2 : IntKind.i64.wrap ((n : Int) + 2) = (n : Int) + 2 := IntWalk.i64_in _ (by omega)
  have hsn : n ≤ 1000000 := by omega
  have hsz1 := HB1.out.size
  go_enter Tryz.func36, Tryz.ntmps36
  go_wp2_with (at_builtin; refine wpList_append_own _ rfl _ _ 36 rfl w.heap.size 5 i0 _ 1 1 Tryz.underlying36 hi hz0 hz1 hz2 rfl (by decide) _ _ _ rfl (hown1.alloc _) ⟨w1.heap.size, 0, none⟩ 1 1 [.int .u8 34] rfl rfl ?c1 ?c2 ?c3 ?c4 ?c5 ?_)
  case c1 => exact cells_new w1 _ _
  case c2 => exact one_one _
  case c3 => unfold maxLen; omega
  case c4 => omega
  case c5 => simp; omega
  intro v1 w2 hown2 hgrow2 hnil2
  have HO2 := Lib.hid hown2
  have HB2 : Hid (Below w.heap.size w w2) := Lib.hid ((HB1.out.alloc HB1.out.size _).grown hgrow2 (by simp; omega) (by intro q hq; exact (HO1.out.lt q hq).1))
  have HN2 : Hid (v1 ≠ .slice none 0 0) := Lib.hid (fun e => by first | exact hnil2 e | exact absurd (hnil2.1 e).2 (by decide))
  clear hown1 hown2 hgrow2 hnil2 hmk HO1 HB1 hsz1
  go_wp2
  go_loopw [3, 14] (fun sv si wr => ∃ k : Nat, k ≤ n ∧ si = .int .i64 (k : Int) ∧ wr.ownsRow w.heap.size 5 1 sv (accL s.data.toList k).length ((accL s.data.toList k).map encB) ∧ Below w.heap.size w wr ∧ sv ≠ .slice none 0 0) (fun _ si _ => n - (intOf si).toNat)
  case atStart => exact ⟨0, Nat.zero_le _, rfl, HO2.out, HB2.out, HN2.out⟩
  case round =>
    clear HO2 HB2 HN2
    obtain ⟨k, hk, rfl, hown, hbel, hnn⟩ := hrel
    have HNN := Lib.hid hnn
    have HB := Lib.hid hbel
    clear hbel hnn
    have hal := accL_len s.data.toList k
    rw [HLEN.out] at hal
    by_cases hlt : k < n
    · have hks : k < s.size := by omega
      have hkl : k < s.data.toList.length := by rw [HLEN.out]; exact hlt
      have HX := Lib.hid (accL_snoc hkl)
      obtain ⟨c, hc⟩ : ∃ c, s[k]'hks = c := ⟨_, rfl⟩
      rw [getd s k hks, hc] at HX
      have hskz : (k : Int) < (n : Int) := by omega
      obtain ⟨u7, hu7⟩ : ∃ u, u = wr := ⟨_, rfl⟩
      have HC : Hid (∀ v, wr.ownsRow w.heap.size 5 1 v (accL s.data.toList k).length ((accL s.data.toList k).map encB) → Calls Tryz.prog 56 #[v, .int .u8 c.toNat] wr fun e w' => ∃ v', e = .returned v' ∧ w'.ownsRow w.heap.size 5 1 v' (accL s.data.toList (k + 1)).length ((accL s.data.toList (k + 1)).map encB) ∧ Below w.heap.size wr w' ∧ v' ≠ .slice none 0 0) := Lib.hid (fun v hv => by
        rw [HX.out]
        exact appesc_any v _ _ c w.heap.size wr hv HB.out.size (by omega))
      have HO := Lib.hid hown
      clear hkl hown hal hu7
      go_wp2_with (go_at_call 56; refine (HC.out _ HO.out).mono ?_; rintro e w3 ⟨v3, rfl, ho3, hb3, hn3⟩; have HO3 := Lib.hid ho3; have HB3 := Lib.hid hb3; have HN3 := Lib.hid hn3; clear ho3 hb3 hn3)
      go_roundw
      case measure => simp [intOf]; omega
      case rel => exact ⟨k + 1, by omega, by go_num, HO3.out, HB.out.trans HB3.out, HN3.out⟩
    · obtain rfl : k = n := by omega
      have HE := Lib.hid (accL_end (l := s.data.toList) (k := k) (by rw [HLEN.out]; exact Nat.le_refl _))
      have HO := Lib.hid hown
      obtain ⟨YS, hYS⟩ : ∃ YS, YS = (accL s.data.toList k).map encB := ⟨_, rfl⟩
      rw [← hYS] at hown
      have HYS := Lib.hid hYS
      obtain ⟨al, hal2⟩ : ∃ al, (accL s.data.toList k).length = al := ⟨_, rfl⟩
      rw [hal2] at hown hal
      have HAL := Lib.hid hal2
      clear hYS hal2
      have hHb := HB.out.size
      go_wp2_with (at_builtin; refine wpList_append_own _ rfl _ _ 36 rfl w.heap.size 5 i0 _ 1 1 Tryz.underlying36 hi hz0 hz1 hz2 rfl (by decide) _ _ _ rfl (hown.alloc _) ⟨wr.heap.size, 0, none⟩ 1 1 [.int .u8 34] rfl rfl ?c1 ?c2 ?c3 ?c4 ?c5 ?_)
      case c1 => exact cells_new wr _ _
      case c2 => exact one_one _
      case c3 => unfold maxLen; omega
      case c4 => omega
      case c5 => simp; omega
      intro v4 w4 hown4 hgrow4 hnil4
      have HB4 : Hid (Below w.heap.size w w4) := Lib.hid ((HB.out.alloc HB.out.size _).grown hgrow4 (by simp; omega) (by intro q hq; exact (HO.out.lt q hq).1))
      have hown5 : w4.ownsRow w.heap.size 5 1 v4 (al + 1) ((dblL s.data.toList).map encB) := by
        rw [← HE.out, map_snoc, ← HYS.out]; exact hown4
      obtain ⟨g, cap, hv, hcv⟩ := own_conv hown5 (fun e => by first | exact hnil4 e | exact absurd (hnil4.1 e).2 (by decide))
      subst hv
      have hDD : (⟨(dblL s.data.toList).toArray⟩ : ByteArray) = D := mk_of HD.out
      rw [hDD] at hcv
      clear hown hown4 hown5 hgrow4 hnil4 hDD hal
      go_wp2
      go_ret
      exact ⟨rfl, HB4.out⟩
end Go.Proofs.YtemndagaicamiaaGreatDoor
namespace Go.Proofs.YtemndagaicamiaaGreatDoor
open Go.RowKit Go.Sort
open Q6
set_option linter.unusedVariables false
def writeL (l : List UInt8) (row : Bool) : List UInt8 := if (if row then rowB l else plainB l) = true then l else dblL l
theorem write_yes {l : List UInt8} {row : Bool} (h : (if row then rowB l else plainB l) = true) : writeL l row = l := by unfold writeL; rw [if_pos h]
theorem write_no {l : List UInt8} {row : Bool} (h : (if row then rowB l else plainB l) = false) : writeL l row = dblL l := by unfold writeL; rw [if_neg (by rw [h]; decide)]
set_option maxHeartbeats 1600000 in
theorem Write_any (s : ByteArray) (row : Bool) (w : World) (hs : s.size ≤ 1000000) (D : ByteArray) (hD : writeL s.data.toList row = D.data.toList) :
    Calls Tryz.prog 21 #[.string s, .bool row] w fun e w' => e = .returned (.string D) ∧ Below w.heap.size w w' := by
  have hs' : s.size ≤ maxLen := by unfold maxLen; omega
  cases row with
  | true =>
    rcases Bool.eq_false_or_eq_true (rowB s.data.toList) with h | h
    · have e : s = D := bytes_ext ((write_yes (row := true) h).symm.trans hD)
      subst e
      have HP := Lib.hid h
      clear h hD
      go_enter Tryz.func21, Tryz.ntmps21
      go_wp2_with (go_at_call 35; refine (Row_q s true _ hs' HP.out).mono ?_; rintro e w' ⟨rfl, rfl⟩)
      go_ret
      exact ⟨rfl, Below.refl _ _⟩
    · have HD := Lib.hid ((write_no (row := true) h).symm.trans hD)
      have HP := Lib.hid h
      clear h hD
      go_enter Tryz.func21, Tryz.ntmps21
      go_wp2_with (first | (go_at_call 35; refine (Row_q s false _ hs' HP.out).mono ?_; rintro e w' ⟨rfl, rfl⟩) | (go_at_call 36; refine (Double_any s _ hs D HD.out).mono ?_; rintro e w' ⟨rfl, hb⟩))
      go_ret
      exact ⟨rfl, hb⟩
  | false =>
    rcases Bool.eq_false_or_eq_true (plainB s.data.toList) with h | h
    · have e : s = D := bytes_ext ((write_yes (row := false) h).symm.trans hD)
      subst e
      have HP := Lib.hid h
      clear h hD
      go_enter Tryz.func21, Tryz.ntmps21
      go_wp2_with (go_at_call 34; refine (Plain_q s true _ hs' HP.out).mono ?_; rintro e w' ⟨rfl, rfl⟩)
      go_ret
      exact ⟨rfl, Below.refl _ _⟩
    · have HD := Lib.hid ((write_no (row := false) h).symm.trans hD)
      have HP := Lib.hid h
      clear h hD
      go_enter Tryz.func21, Tryz.ntmps21
      go_wp2_with (first | (go_at_call 34; refine (Plain_q s false _ hs' HP.out).mono ?_; rintro e w' ⟨rfl, rfl⟩) | (go_at_call 36; refine (Double_any s _ hs D HD.out).mono ?_; rintro e w' ⟨rfl, hb⟩))
      go_ret
      exact ⟨rfl, hb⟩
end Go.Proofs.YtemndagaicamiaaGreatDoor
namespace Go.Proofs.YtemndagaicamiaaGreatDoor
open Go.RowKit Go.Sort
open Q6
set_option linter.unusedVariables false
theorem scan_no {l : List UInt8} {i : Int} (h : isQuote l i = false) : scanV l i = [] ∧ scanN l i = 0 ∧ scanE l i = 2 := by
  unfold scanV scanN scanE; rw [h]; exact ⟨rfl, rfl, rfl⟩
theorem scan_is {l : List UInt8} {i : Int} (h : isQuote l i = true) : scanV l i = outV (scanR l i.toNat) ∧ scanN l i = outN (scanR l i.toNat) ∧ scanE l i = outE (scanR l i.toNat) := by
  unfold scanV scanN scanE; rw [h]; exact ⟨rfl, rfl, rfl⟩
set_option maxHeartbeats 1600000 in
theorem Scan_any (s : ByteArray) (i : Int) (w : World) (hs : s.size ≤ 1000000) (i1 : -9223372036854775808 ≤ i) (i2 : i ≤ 9223372036854775807) (q : ByteArray) (x y : Int)
    (hq : scanV s.data.toList i = q.data.toList) (hx : scanN s.data.toList i = x) (hy : scanE s.data.toList i = y) :
    Calls Tryz.prog 57 #[.string s, .int .i64 i] w fun e w' => e = .returned (.tuple #[.string q, .int .i64 x, .int .i64 y]) ∧ Below w.heap.size w w' := by
  have HOUT : Hid (scanV s.data.toList i = q.data.toList ∧ scanN s.data.toList i = x ∧ scanE s.data.toList i = y) := Lib.hid ⟨hq, hx, hy⟩
  clear hq hx hy
  have HLEN := Lib.hid (len_eq s)
  by_cases h0 : i < 0
  · have HN := Lib.hid (scan_no (l := s.data.toList) (i := i) (by unfold isQuote; rw [decide_eq_false (by omega : ¬ 0 ≤ i)]; rfl))
    go_enter Tryz.func57, Tryz.ntmps57
    go_wp2
    go_ret3
    exact ⟨ret_sii (bytes_ext (by rw [← HOUT.out.1, HN.out.1])) (by rw [← HOUT.out.2.1, HN.out.2.1]) (by rw [← HOUT.out.2.2, HN.out.2.2]), Below.refl _ _⟩
  by_cases h1 : (s.size : Int) ≤ i
  · have HN := Lib.hid (scan_no (l := s.data.toList) (i := i) (by unfold isQuote; rw [decide_eq_false (by rw [HLEN.out]; omega : ¬ i < (s.data.toList.length : Int)), Bool.and_false]; rfl))
    go_enter Tryz.func57, Tryz.ntmps57
    go_wp2
    go_ret3
    exact ⟨ret_sii (bytes_ext (by rw [← HOUT.out.1, HN.out.1])) (by rw [← HOUT.out.2.1, HN.out.2.1]) (by rw [← HOUT.out.2.2, HN.out.2.2]), Below.refl _ _⟩
  obtain ⟨k, rfl⟩ : ∃ k : Nat, i = (k : Int) := ⟨i.toNat, by omega⟩
  have hk : k < s.size := by omega
  have hkz : (k : Int) < (s.size : Int) := by omega
  have hkz' : ¬ (s.size : Int) ≤ (k : Int) := by omega
  obtain ⟨c, hc⟩ : ∃ c, s[k]'hk = c := ⟨_, rfl⟩
  have hg : s.data.toList.getD k 0 = c := (getd s k hk).trans hc
  have hQ : isQuote s.data.toList (k : Int) = (decide (c = 34) || decide (c = 39)) := by
    unfold isQuote
    rw [decide_eq_true (by omega : (0 : Int) ≤ (k : Int)), decide_eq_true (by rw [HLEN.out]; omega : (k : Int) < (s.data.toList.length : Int)), Int.toNat_natCast, hg]; rfl
  have hR : scanR s.data.toList k = if c = 34 then atD s.data.toList [] (k + 1) else atS s.data.toList [] (k + 1) := by unfold scanR; rw [hg]
  have HQ := Lib.hid hQ
  have HR := Lib.hid hR
  clear hg hQ hR h0 h1
  have kw : IntKind.i64.wrap ((k : Int) + 1) = (k : Int) + 1 := IntWalk.i64_in _ (by omega)
  have ek : ((k + 1 : Nat) : Int) = (k : Int) + 1 := by omega
  by_cases h34 : c = 34
  · have m34 : ((c.toNat : Int) == 34) = true := by rw [isC_beq 34 c 34 rfl, isC_iff.2 h34]
    have HI := Lib.hid (scan_is (l := s.data.toList) (i := (k : Int)) (by rw [HQ.out, decide_eq_true h34]; rfl))
    rw [Int.toNat_natCast, HR.out, if_pos h34] at HI
    have hC := fun w0 => scanDouble_any s (k + 1) w0 hs (by omega) q x y (by rw [← HI.out.1]; exact HOUT.out.1) (by rw [← HI.out.2.1]; exact HOUT.out.2.1) (by rw [← HI.out.2.2]; exact HOUT.out.2.2)
    rw [ek] at hC
    have HC := Lib.hid hC
    clear hC ek h34
    go_enter Tryz.func57, Tryz.ntmps57
    go_wp2_with (go_at_call 69; refine (HC.out _).mono ?_; rintro e w' ⟨rfl, hb⟩)
    go_ret3
    exact ⟨rfl, hb⟩
  · have m34 : ((c.toNat : Int) == 34) = false := by rw [isC_beq 34 c 34 rfl]; exact Bool.eq_false_iff.2 (fun e => h34 (isC_iff.1 e))
    by_cases h39 : c = 39
    · have m39 : ((c.toNat : Int) == 39) = true := by rw [isC_beq 39 c 39 rfl, isC_iff.2 h39]
      have HI := Lib.hid (scan_is (l := s.data.toList) (i := (k : Int)) (by rw [HQ.out, decide_eq_true h39, Bool.or_true]))
      rw [Int.toNat_natCast, HR.out, if_neg h34] at HI
      have hC := fun w0 => scanSingle_any s (k + 1) w0 hs (by omega) q x y (by rw [← HI.out.1]; exact HOUT.out.1) (by rw [← HI.out.2.1]; exact HOUT.out.2.1) (by rw [← HI.out.2.2]; exact HOUT.out.2.2)
      rw [ek] at hC
      have HC := Lib.hid hC
      clear hC ek h34 h39
      go_enter Tryz.func57, Tryz.ntmps57
      go_wp2_with (go_at_call 70; refine (HC.out _).mono ?_; rintro e w' ⟨rfl, hb⟩)
      go_ret3
      exact ⟨rfl, hb⟩
    · have m39 : ((c.toNat : Int) == 39) = false := by rw [isC_beq 39 c 39 rfl]; exact Bool.eq_false_iff.2 (fun e => h39 (isC_iff.1 e))
      have HN := Lib.hid (scan_no (l := s.data.toList) (i := (k : Int)) (by rw [HQ.out, decide_eq_false h34, decide_eq_false h39]; rfl))
      clear ek h34 h39
      go_enter Tryz.func57, Tryz.ntmps57
      go_wp2
      go_ret3
      exact ⟨ret_sii (bytes_ext (by rw [← HOUT.out.1, HN.out.1])) (by rw [← HOUT.out.2.1, HN.out.2.1]) (by rw [← HOUT.out.2.2, HN.out.2.2]), Below.refl _ _⟩
end Go.Proofs.YtemndagaicamiaaGreatDoor
