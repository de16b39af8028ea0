/- Lines as lists of bytes: where a content ends, what a file's lines say. -/
import Derived.Test.YtjhojedicehcfaaDoorQuoScan
namespace Go.Proofs.YtjhojedicehcfaaDoor
namespace Q6
set_option linter.unusedVariables false
/-- A scan ends behind its beginning and within the text. -/
theorem scD_in (n : Nat) : ∀ (l : List UInt8), l.length ≤ n → ∀ v m, scD l = some (v, m) → 1 ≤ m ∧ m ≤ l.length := by
  induction n with
  | zero =>
    intro l hl v m h
    cases l with
    | nil => rw [scD_nil] at h; cases h
    | cons c t => rw [List.length_cons] at hl; omega
  | succ n ih =>
    intro l hl v m h
    cases l with
    | nil => rw [scD_nil] at h; cases h
    | cons c t =>
      by_cases hc : c = 34
      · subst hc
        rw [scD_end] at h
        cases h
        exact ⟨Nat.le_refl _, by rw [List.length_cons]; omega⟩
      · obtain ⟨x, k⟩ : ∃ x, den (c :: t) = x := ⟨_, rfl⟩
        obtain ⟨y, j⟩ := x
        have hlen := den_len (c :: t)
        rw [k] at hlen
        by_cases hj : j = 0
        · rw [scD_bad hc (by rw [k]; exact hj)] at h; cases h
        · rw [scD_next hc k hj] at h
          cases hr : scD ((c :: t).drop j) with
          | none => rw [hr] at h; cases h
          | some p =>
            rw [hr] at h
            obtain ⟨p1, p2⟩ := p
            have hl2 : ((c :: t).drop j).length ≤ n := by rw [List.length_drop, List.length_cons]; rw [List.length_cons] at hl; omega
            have hi := ih _ hl2 _ _ hr
            rw [List.length_drop] at hi
            cases h
            have hlen' : j ≤ (c :: t).length := hlen
            exact ⟨by show 1 ≤ j + p2; omega, by show j + p2 ≤ _; omega⟩
theorem scS_in : ∀ (l : List UInt8) v m, scS l = some (v, m) → 1 ≤ m ∧ m ≤ l.length
  | [], v, m, h => by rw [scS] at h; cases h
  | [c], v, m, h => by
    rw [scS] at h
    split at h
    · cases h; exact ⟨Nat.le_refl _, Nat.le_refl _⟩
    · cases h
  | c :: d :: t, v, m, h => by
    rw [scS] at h
    split at h
    · split at h
      · split at h
        · cases hr : scS t with
          | none => rw [hr] at h; cases h
          | some p =>
            obtain ⟨p1, p2⟩ := p
            rw [hr] at h
            have := scS_in t p1 p2 hr
            cases h
            exact ⟨by show 1 ≤ 2 + p2; omega, by show 2 + p2 ≤ t.length + 1 + 1; omega⟩
        · cases h; exact ⟨Nat.le_refl _, by show 1 ≤ t.length + 1 + 1; omega⟩
      · cases hr : scS (d :: t) with
        | none => rw [hr] at h; cases h
        | some p =>
          obtain ⟨p1, p2⟩ := p
          rw [hr] at h
          have := scS_in (d :: t) p1 p2 hr
          cases h
          have h2 : p2 ≤ t.length + 1 := this.2
          exact ⟨by show 1 ≤ 1 + p2; omega, by show 1 + p2 ≤ t.length + 1 + 1; omega⟩
    · cases h
theorem scanE_cases (l : List UInt8) (k : Nat) : scanE l (k : Int) ≠ 0 ∨ ∃ (v : List UInt8) (m : Nat), scanE l (k : Int) = 0 ∧ scanV l (k : Int) = v ∧ scanN l (k : Int) = (m : Int) ∧ k < m ∧ m ≤ l.length := by
  by_cases hq : isQuote l (k : Int) = true
  · have hk : k < l.length := by
      unfold isQuote at hq
      rw [Bool.and_eq_true, Bool.and_eq_true] at hq
      have := of_decide_eq_true hq.1.2
      omega
    have e1 : scanE l (k : Int) = outE (scanR l k) := by unfold scanE; rw [if_pos hq, Int.toNat_natCast]
    have e2 : scanV l (k : Int) = outV (scanR l k) := by unfold scanV; rw [if_pos hq, Int.toNat_natCast]
    have e3 : scanN l (k : Int) = outN (scanR l k) := by unfold scanN; rw [if_pos hq, Int.toNat_natCast]
    rw [e1, e2, e3]
    cases hr : scanR l k with
    | none => left; show (3 : Int) ≠ 0; decide
    | some p =>
      obtain ⟨v, m⟩ := p
      right
      refine ⟨v, m, rfl, rfl, rfl, ?_⟩
      unfold scanR at hr
      split at hr
      · unfold atD at hr
        cases hs : scD (l.drop (k + 1)) with
        | none => rw [hs] at hr; cases hr
        | some p =>
          obtain ⟨p1, p2⟩ := p
          rw [hs] at hr
          have hi := scD_in _ _ (Nat.le_refl _) _ _ hs
          rw [List.length_drop] at hi
          cases hr
          exact ⟨by show k < k + 1 + p2; omega, by show k + 1 + p2 ≤ _; omega⟩
      · unfold atS at hr
        cases hs : scS (l.drop (k + 1)) with
        | none => rw [hs] at hr; cases hr
        | some p =>
          obtain ⟨p1, p2⟩ := p
          rw [hs] at hr
          have hi := scS_in _ _ _ hs
          rw [List.length_drop] at hi
          cases hr
          exact ⟨by show k < k + 1 + p2; omega, by show k + 1 + p2 ≤ _; omega⟩
  · left
    unfold scanE
    rw [if_neg hq]; decide
/-- The byte ahead of k; a space stands for none. -/
def prevB (l : List UInt8) (k : Nat) : UInt8 := if k = 0 then 32 else l.getD (k - 1) 0
def opens (b : UInt8) : Bool := decide (b = 32) || decide (b = 91) || decide (b = 123) || decide (b = 44)
/-- What begins at k: 0 nothing, 1 a quoted string, 2 a comment. -/
def begK (l : List UInt8) (k : Nat) : Nat :=
  if l.getD k 0 = 35 ∧ prevB l k = 32 then 2 else if (l.getD k 0 = 34 ∨ l.getD k 0 = 39) ∧ opens (prevB l k) = true then 1 else 0
/-- Where the content ends, spaces at its end included; none: the line is invalid. -/
def endAt (l : List UInt8) (k : Nat) : Option Nat :=
  if h : k < l.length then
    if begK l k = 2 then some k
    else if begK l k = 1 then
      if scanE l (k : Int) = 0 then (if h2 : k < (scanN l (k : Int)).toNat then endAt l (scanN l (k : Int)).toNat else none) else none
    else if good (l.getD k 0) = true then endAt l (k + 1) else none
  else some l.length
  termination_by l.length - k
theorem endAt_out {l : List UInt8} {k : Nat} (h : l.length ≤ k) : endAt l k = some l.length := by rw [endAt, dif_neg (by omega)]
theorem endAt_mark {l : List UInt8} {k : Nat} (h : k < l.length) (hb : begK l k = 2) : endAt l k = some k := by rw [endAt, dif_pos h, if_pos hb]
theorem endAt_bad {l : List UInt8} {k : Nat} (h : k < l.length) (hb : begK l k = 1) (hs : scanE l (k : Int) ≠ 0) : endAt l k = none := by
  rw [endAt, dif_pos h, if_neg (by rw [hb]; decide), if_pos hb, if_neg hs]
theorem endAt_quote {l : List UInt8} {k m : Nat} (h : k < l.length) (hb : begK l k = 1) (hs : scanE l (k : Int) = 0) (hm : scanN l (k : Int) = (m : Int)) (hkm : k < m) : endAt l k = endAt l m := by
  rw [endAt, dif_pos h, if_neg (by rw [hb]; decide), if_pos hb, if_pos hs, hm, Int.toNat_natCast, dif_pos hkm]
theorem endAt_raw {l : List UInt8} {k : Nat} (h : k < l.length) (hb : begK l k = 0) (hg : good (l.getD k 0) = false) : endAt l k = none := by
  rw [endAt, dif_pos h, if_neg (by rw [hb]; decide), if_neg (by rw [hb]; decide), if_neg (by rw [hg]; decide)]
theorem endAt_next {l : List UInt8} {k : Nat} (h : k < l.length) (hb : begK l k = 0) (hg : good (l.getD k 0) = true) : endAt l k = endAt l (k + 1) := by
  rw [endAt, dif_pos h, if_neg (by rw [hb]; decide), if_neg (by rw [hb]; decide), if_pos hg]
theorem begK_cases (l : List UInt8) (k : Nat) : begK l k = 0 ∨ begK l k = 1 ∨ begK l k = 2 := by
  unfold begK
  split
  · exact .inr (.inr rfl)
  · split
    · exact .inr (.inl rfl)
    · exact .inl rfl
theorem endAt_le (n : Nat) : ∀ (l : List UInt8) (k e : Nat), l.length - k ≤ n → endAt l k = some e → e ≤ l.length := by
  induction n with
  | zero =>
    intro l k e hk h
    rw [endAt_out (by omega)] at h
    cases h; exact Nat.le_refl _
  | succ n ih =>
    intro l k e hk h
    by_cases hlt : k < l.length
    · rcases begK_cases l k with hb | hb | hb
      · rcases Bool.eq_false_or_eq_true (good (l.getD k 0)) with hg | hg
        · rw [endAt_next hlt hb hg] at h
          exact ih l (k + 1) e (by omega) h
        · rw [endAt_raw hlt hb hg] at h; cases h
      · rcases scanE_cases l k with hs | ⟨v, m, hs, -, hm, hkm, hml⟩
        · rw [endAt_bad hlt hb hs] at h; cases h
        · rw [endAt_quote hlt hb hs hm hkm] at h
          exact ih l m e (by omega) h
      · rw [endAt_mark hlt hb] at h
        cases h; omega
    · rw [endAt_out (by omega)] at h
      cases h; exact Nat.le_refl _
/-- How much of a text is left without the spaces at its end. -/
def trimN : List UInt8 → Nat → Nat
  | l, 0 => 0
  | l, n + 1 => if l.getD n 0 = 32 then trimN l n else n + 1
theorem trimN_le (l : List UInt8) (n : Nat) : trimN l n ≤ n := by
  induction n with
  | zero => exact Nat.le_refl _
  | succ n ih =>
    unfold trimN
    split
    · omega
    · exact Nat.le_refl _
/-- What a line says behind its indentation. -/
def sayL (l : List UInt8) : Option (List UInt8) := (endAt l 0).map fun e => l.take (trimN l e)
/-- A line that says something. -/
structure Ln where
  no : Nat
  ind : Nat
  text : List UInt8
/-- The bytes up to the line's end; what stands behind it. -/
def rowN (l : List UInt8) : Nat := (l.takeWhile fun c => decide (c ≠ 10)).length
def indN (l : List UInt8) : Nat := (l.takeWhile fun c => decide (c = 32)).length
def marker (t : List UInt8) : Bool := decide (t = [45, 45, 45]) || decide (t = [46, 46, 46])
/-- What one line gives: its content, or that it is invalid. -/
def oneL (row : List UInt8) : Option (Nat × List UInt8) :=
  match sayL (row.drop (indN row)) with
  | none => none
  | some t => if indN row = 0 ∧ marker t = true then none else some (indN row, t)
/-- The lines of a file from number no + 1 on, behind those that were read; or the number of the first invalid line. -/
def splitL (no : Nat) (acc : List Ln) (l : List UInt8) : List Ln × Nat × Int :=
  if h : l = [] then (acc, 0, 0)
  else
    match oneL (l.take (rowN l)) with
    | none => ([], no + 1, 3)
    | some (k, t) => splitL (no + 1) (if t = [] then acc else acc ++ [⟨no + 1, k, t⟩]) (l.drop (rowN l + 1))
  termination_by l.length
  decreasing_by
    rw [List.length_drop]
    have := List.length_pos_iff.2 h
    omega
theorem splitL_nil (no : Nat) (acc : List Ln) : splitL no acc [] = (acc, 0, 0) := by rw [splitL, dif_pos rfl]
theorem splitL_bad {no : Nat} {acc : List Ln} {l : List UInt8} (h : l ≠ []) (h1 : oneL (l.take (rowN l)) = none) : splitL no acc l = ([], no + 1, 3) := by rw [splitL, dif_neg h, h1]
theorem splitL_next {no : Nat} {acc : List Ln} {l : List UInt8} {k : Nat} {t : List UInt8} (h : l ≠ []) (h1 : oneL (l.take (rowN l)) = some (k, t)) :
    splitL no acc l = splitL (no + 1) (if t = [] then acc else acc ++ [⟨no + 1, k, t⟩]) (l.drop (rowN l + 1)) := by rw [splitL, dif_neg h, h1]
def fileL (l : List UInt8) : List Ln × Nat × Int := if 8192 < l.length then ([], 0, 9) else splitL 0 [] l
end Q6
end Go.Proofs.YtjhojedicehcfaaDoor
