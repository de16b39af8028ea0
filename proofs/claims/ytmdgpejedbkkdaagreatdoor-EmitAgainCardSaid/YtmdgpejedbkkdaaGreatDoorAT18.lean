/- LinProg -/
import Derived.Lib.SplitLaws
import Derived.Lib.TrimByte
import Derived.Test.YtmdgpejedbkkdaaGreatDoorAT4
set_option linter.unusedVariables false
set_option linter.unusedSimpArgs false
set_option maxRecDepth 100000
set_option maxHeartbeats 16000000
namespace Go.Proofs.YtmdgpejedbkkdaaGreatDoor
namespace Q6
theorem hexV_good {a : UInt8} (h : hexV a < 16) : good a = true := by
 unfold hexV at h
 unfold good
 rw [Bool.and_eq_true]
 split at h
 ·exact ⟨decide_eq_true (by omega), decide_eq_true (by omega)⟩
 ·split at h
  ·exact ⟨decide_eq_true (by omega), decide_eq_true (by omega)⟩
  ·split at h
   ·exact ⟨decide_eq_true (by omega), decide_eq_true (by omega)⟩
   ·omega
theorem den_good {l : List UInt8} {v : UInt8} {m : Nat} (h : den l = (v, m)) (hm : m ≠ 0) : ∀ c ∈ l.take m, good c = true := by
 match l with
 | [] => cases h; exact absurd rfl hm
 | c :: t =>
  rw [den_cons] at h
  split at h
  ·rename_i h92
   subst h92
   match t with
   | [] => cases h; exact absurd rfl hm
   | d :: u =>
    rw [denB_cons] at h
    split at h
    ·rename_i hd
     cases h
     intro x hx
     simp only [List.take_succ_cons, List.take_zero, List.mem_cons, List.not_mem_nil, or_false] at hx
     rcases hx with rfl | rfl
     ·decide
     ·rcases hd with rfl | rfl <;> decide
    ·split at h
     ·rename_i hd
      subst hd
      cases h
      intro x hx
      simp only [List.take_succ_cons, List.take_zero, List.mem_cons, List.not_mem_nil, or_false] at hx
      rcases hx with rfl | rfl <;> decide
     ·split at h
      ·rename_i hd
       subst hd
       cases h
       intro x hx
       simp only [List.take_succ_cons, List.take_zero, List.mem_cons, List.not_mem_nil, or_false] at hx
       rcases hx with rfl | rfl <;> decide
      ·split at h
       ·rename_i hd
        subst hd
        match u with
        | [] => cases h; exact absurd rfl hm
        | [a] => cases h; exact absurd rfl hm
        | a :: b :: x =>
         rw [denX_two] at h
         split at h
         ·rename_i hab
          cases h
          intro y hy
          simp only [List.take_succ_cons, List.take_zero, List.mem_cons, List.not_mem_nil, or_false] at hy
          rcases hy with rfl | rfl | rfl | rfl
          ·decide
          ·decide
          ·exact hexV_good hab.1
          ·exact hexV_good hab.2
         ·cases h; exact absurd rfl hm
       ·cases h; exact absurd rfl hm
  ·split at h
   ·rename_i hg
    cases h
    intro x hx
    simp only [List.take_succ_cons, List.take_zero, List.mem_cons, List.not_mem_nil, or_false] at hx
    subst hx
    exact hg
   ·cases h; exact absurd rfl hm
theorem scD_good (n : Nat) : ∀ (l : List UInt8), l.length ≤ n → ∀ v m, scD l = some (v, m) → ∀ c ∈ l.take m, good c = true := by
 induction n with
 | zero =>
  intro l hl v m h
  cases l with
  | nil => rw [scD_nil] at h; cases h
  | cons c t => rw [List.length_cons] at hl; omega
 | succ n ih =>
  intro l hl v m h
  cases l with
  | nil => rw [scD_nil] at h; cases h
  | cons c t =>
   by_cases hc : c = 34
   ·subst hc
    rw [scD_end] at h
    cases h
    intro x hx
    simp only [List.take_succ_cons, List.take_zero, List.mem_cons, List.not_mem_nil, or_false] at hx
    subst hx
    decide
   ·obtain ⟨x, hx⟩ : ∃ x, den (c :: t) = x := ⟨_, rfl⟩
    obtain ⟨y, i⟩ := x
    by_cases hi : i = 0
    ·rw [scD_bad hc (by rw [hx]; exact hi)] at h; cases h
    ·rw [scD_next hc hx hi] at h
     cases hr : scD ((c :: t).drop i) with
     | none => rw [hr] at h; cases h
     | some p =>
      obtain ⟨p1, p2⟩ := p
      rw [hr] at h
      have hm : i + p2 = m := by cases h; rfl
      have hl2 : ((c :: t).drop i).length ≤ n := by rw [List.length_drop, List.length_cons]; rw [List.length_cons] at hl; omega
      have h1 := den_good hx hi
      have h2 := ih _ hl2 p1 p2 hr
      rw [← hm, List.take_add]
      intro z hz
      rcases List.mem_append.1 hz with hz | hz
      ·exact h1 z hz
      ·exact h2 z hz
theorem scS_good : ∀ (l : List UInt8) v m, scS l = some (v, m) → ∀ c ∈ l.take m, good c = true
 | [], v, m, h => by rw [scS] at h; cases h
 | [c], v, m, h => by
  rw [scS] at h
  split at h
  ·rename_i hc
   cases h
   intro x hx
   simp only [List.take_succ_cons, List.take_zero, List.mem_cons, List.not_mem_nil, or_false] at hx
   subst hx; subst hc
   decide
  ·cases h
 | c :: d :: t, v, m, h => by
  rw [scS] at h
  split at h
  ·rename_i hg
   split at h
   ·rename_i hc
    split at h
    ·rename_i hd
     cases hr : scS t with
     | none => rw [hr] at h; cases h
     | some p =>
      obtain ⟨p1, p2⟩ := p
      rw [hr] at h
      have ih := scS_good t p1 p2 hr
      have hm : 2 + p2 = m := by cases h; rfl
      rw [← hm, show 2 + p2 = p2 + 1 + 1 by omega, List.take_succ_cons, List.take_succ_cons]
      intro x hx
      rcases List.mem_cons.1 hx with rfl | hx
      ·exact hg
      ·rcases List.mem_cons.1 hx with rfl | hx
       ·subst hd; decide
       ·exact ih x hx
    ·cases h
     intro x hx
     simp only [List.take_succ_cons, List.take_zero, List.mem_cons, List.not_mem_nil, or_false] at hx
     subst hx
     exact hg
   ·cases hr : scS (d :: t) with
    | none => rw [hr] at h; cases h
    | some p =>
     obtain ⟨p1, p2⟩ := p
     rw [hr] at h
     have ih := scS_good (d :: t) p1 p2 hr
     have hm : 1 + p2 = m := by cases h; rfl
     rw [← hm, show 1 + p2 = p2 + 1 by omega, List.take_succ_cons]
     intro x hx
     rcases List.mem_cons.1 hx with rfl | hx
     ·exact hg
     ·exact ih x hx
  ·cases h
theorem mem_take_drop {l : List UInt8} {a p j : Nat} (h1 : a ≤ j) (h2 : j < a + p) (h3 : j < l.length) : l.getD j 0 ∈ (l.drop a).take p := by
 rw [List.getD_eq_getElem?_getD, List.getElem?_eq_getElem h3]
 show l[j] ∈ _
 rw [List.mem_iff_getElem?]
 refine ⟨j - a, ?_⟩
 rw [List.getElem?_take_of_lt (by omega), List.getElem?_drop, show a + (j - a) = j by omega, List.getElem?_eq_getElem h3]
theorem scan_good {l : List UInt8} {k m : Nat} (hs : scanE l (k : Int) = 0) (hm : scanN l (k : Int) = (m : Int)) (hml : m ≤ l.length) : ∀ j, k ≤ j → j < m → good (l.getD j 0) = true := by
 by_cases hq : isQuote l (k : Int) = true
 ·have hqq := hq
  unfold isQuote at hq
  rw [Bool.and_eq_true] at hq
  have e1 : scanE l (k : Int) = outE (scanR l k) := by unfold scanE; rw [if_pos hqq, Int.toNat_natCast]
  have e3 : scanN l (k : Int) = outN (scanR l k) := by unfold scanN; rw [if_pos hqq, Int.toNat_natCast]
  rw [e1] at hs
  rw [e3] at hm
  have h0 : good (l.getD k 0) = true := by
   have := hq.2
   rw [Int.toNat_natCast, Bool.or_eq_true] at this
   rcases this with h | h
   ·rw [of_decide_eq_true h]; decide
   ·rw [of_decide_eq_true h]; decide
  intro j hj hjm
  by_cases hjk : j = k
  ·subst hjk; exact h0
  cases hr : scanR l k with
  | none => rw [hr] at hs; cases hs
  | some p =>
   obtain ⟨v, m2⟩ := p
   rw [hr] at hm
   have hmm : m2 = m := by
    have : (m2 : Int) = (m : Int) := hm
    omega
   subst hmm
   unfold scanR at hr
   split at hr
   ·unfold atD at hr
    cases hsd : scD (l.drop (k + 1)) with
    | none => rw [hsd] at hr; cases hr
    | some p =>
     obtain ⟨p1, p2⟩ := p
     rw [hsd] at hr
     have hm2 : k + 1 + p2 = m2 := by cases hr; rfl
     exact scD_good _ _ (Nat.le_refl _) _ _ hsd _ (mem_take_drop (by omega) (by omega) (by omega))
   ·unfold atS at hr
    cases hsd : scS (l.drop (k + 1)) with
    | none => rw [hsd] at hr; cases hr
    | some p =>
     obtain ⟨p1, p2⟩ := p
     rw [hsd] at hr
     have hm2 : k + 1 + p2 = m2 := by cases hr; rfl
     exact scS_good _ _ _ hsd _ (mem_take_drop (by omega) (by omega) (by omega))
 ·unfold scanE at hs
  rw [if_neg hq] at hs
  exact absurd hs (by decide)
def conE (l : List UInt8) (k : Nat) : Option Nat :=
 if h : k < l.length then
  if begK l k = 2 then some k
  else if begK l k = 1 then
   if scanE l (k : Int) = 0 then (if h2 : k < (scanN l (k : Int)).toNat then conE l (scanN l (k : Int)).toNat else none) else none
  else conE l (k + 1)
 else some l.length
 termination_by l.length - k
theorem conE_out {l : List UInt8} {k : Nat} (h : l.length ≤ k) : conE l k = some l.length := by rw [conE, dif_neg (by omega)]
theorem conE_mark {l : List UInt8} {k : Nat} (h : k < l.length) (hb : begK l k = 2) : conE l k = some k := by rw [conE, dif_pos h, if_pos hb]
theorem conE_bad {l : List UInt8} {k : Nat} (h : k < l.length) (hb : begK l k = 1) (hs : scanE l (k : Int) ≠ 0) : conE l k = none := by
 rw [conE, dif_pos h, if_neg (by rw [hb]; decide), if_pos hb, if_neg hs]
theorem conE_quote {l : List UInt8} {k m : Nat} (h : k < l.length) (hb : begK l k = 1) (hs : scanE l (k : Int) = 0) (hm : scanN l (k : Int) = (m : Int)) (hkm : k < m) : conE l k = conE l m := by
 rw [conE, dif_pos h, if_neg (by rw [hb]; decide), if_pos hb, if_pos hs, hm, Int.toNat_natCast, dif_pos hkm]
theorem conE_next {l : List UInt8} {k : Nat} (h : k < l.length) (hb : begK l k = 0) : conE l k = conE l (k + 1) := by
 rw [conE, dif_pos h, if_neg (by rw [hb]; decide), if_neg (by rw [hb]; decide)]
theorem conE_ge (n : Nat) : ∀ (l : List UInt8) (k e : Nat), l.length - k ≤ n → k ≤ l.length → conE l k = some e → k ≤ e ∧ e ≤ l.length := by
 induction n with
 | zero =>
  intro l k e hk hkl h
  rw [conE_out (by omega)] at h
  cases h; exact ⟨hkl, Nat.le_refl _⟩
 | succ n ih =>
  intro l k e hk hkl h
  by_cases hlt : k < l.length
  ·rcases begK_cases l k with hb | hb | hb
   ·rw [conE_next hlt hb] at h
    have := ih l (k + 1) e (by omega) (by omega) h
    omega
   ·rcases scanE_cases l k with hs | ⟨v, m, hs, -, hm, hkm, hml⟩
    ·rw [conE_bad hlt hb hs] at h; cases h
    ·rw [conE_quote hlt hb hs hm hkm] at h
     have := ih l m e (by omega) hml h
     omega
   ·rw [conE_mark hlt hb] at h
    cases h; omega
  ·rw [conE_out (by omega)] at h
   cases h; omega
theorem conE_endAt (n : Nat) : ∀ (l : List UInt8) (k : Nat), l.length - k ≤ n → k ≤ l.length →
  (∀ e, endAt l k = some e → conE l k = some e ∧ ∀ j, k ≤ j → j < e → good (l.getD j 0) = true) ∧
  (endAt l k = none → conE l k = none ∨ ∃ e j, conE l k = some e ∧ k ≤ j ∧ j < e ∧ good (l.getD j 0) = false) := by
 induction n with
 | zero =>
  intro l k hk hkl
  rw [endAt_out (by omega), conE_out (by omega)]
  exact ⟨fun e he => ⟨he, fun j h1 h2 => by cases he; omega⟩, fun h => by cases h⟩
 | succ n ih =>
  intro l k hk hkl
  by_cases hlt : k < l.length
  ·rcases begK_cases l k with hb | hb | hb
   ·obtain ⟨i1, i2⟩ := ih l (k + 1) (by omega) (by omega)
    rw [conE_next hlt hb]
    rcases Bool.eq_false_or_eq_true (good (l.getD k 0)) with hg | hg
    ·rw [endAt_next hlt hb hg]
     refine ⟨fun e he => ⟨(i1 e he).1, fun j h1 h2 => ?_⟩, fun h => ?_⟩
     ·by_cases hjk : j = k
      ·subst hjk; exact hg
      ·exact (i1 e he).2 j (by omega) h2
     ·rcases i2 h with h | ⟨e, j, h1, h2, h3, h4⟩
      ·exact .inl h
      ·exact .inr ⟨e, j, h1, by omega, h3, h4⟩
    ·rw [endAt_raw hlt hb hg]
     refine ⟨fun e he => (by cases he), fun _ => ?_⟩
     cases hc : conE l (k + 1) with
     | none => exact .inl rfl
     | some e =>
      have := conE_ge _ l (k + 1) e (Nat.le_refl _) (by omega) hc
      exact .inr ⟨e, k, rfl, Nat.le_refl _, by omega, hg⟩
   ·rcases scanE_cases l k with hs | ⟨v, m, hs, -, hm, hkm, hml⟩
    ·rw [endAt_bad hlt hb hs, conE_bad hlt hb hs]
     exact ⟨fun e he => (by cases he), fun _ => .inl rfl⟩
    ·rw [endAt_quote hlt hb hs hm hkm, conE_quote hlt hb hs hm hkm]
     obtain ⟨i1, i2⟩ := ih l m (by omega) hml
     have hsg := scan_good hs hm hml
     refine ⟨fun e he => ⟨(i1 e he).1, fun j h1 h2 => ?_⟩, fun h => ?_⟩
     ·by_cases hjm : j < m
      ·exact hsg j h1 hjm
      ·exact (i1 e he).2 j (by omega) h2
     ·rcases i2 h with h | ⟨e, j, h1, h2, h3, h4⟩
      ·exact .inl h
      ·exact .inr ⟨e, j, h1, by omega, h3, h4⟩
   ·rw [endAt_mark hlt hb, conE_mark hlt hb]
    exact ⟨fun e he => ⟨he, fun j h1 h2 => by cases he; omega⟩, fun h => by cases h⟩
  ·rw [endAt_out (by omega), conE_out (by omega)]
   exact ⟨fun e he => ⟨he, fun j h1 h2 => by cases he; omega⟩, fun h => by cases h⟩
theorem trimN_space {l : List UInt8} {n j : Nat} (h1 : trimN l n ≤ j) (h2 : j < n) : l.getD j 0 = 32 := by
 induction n with
 | zero => omega
 | succ n ih =>
  unfold trimN at h1
  by_cases e : l.getD n 0 = 32
  ·rw [if_pos e] at h1
   by_cases hjn : j = n
   ·subst hjn; exact e
   ·exact ih h1 (by omega)
  ·rw [if_neg e] at h1; omega
theorem goodL_take {l : List UInt8} {e : Nat} (he : e ≤ l.length) : goodL (l.take e) = true ↔ ∀ j, j < e → good (l.getD j 0) = true := by
 unfold goodL
 rw [List.all_eq_true]
 constructor
 ·intro h j hj
  exact h _ (by have := mem_take_drop (l := l) (a := 0) (p := e) (Nat.zero_le j) (by omega) (by omega); exact this)
 ·intro h x hx
  obtain ⟨j, hj⟩ := List.mem_iff_getElem?.1 hx
  have hjl : j < (l.take e).length := by
   rcases Nat.lt_or_ge j (l.take e).length with h | h
   ·exact h
   ·rw [List.getElem?_eq_none h] at hj; cases hj
  rw [List.length_take] at hjl
  rw [List.getElem?_take_of_lt (by omega)] at hj
  have := h j (by omega)
  rw [List.getD_eq_getElem?_getD, hj] at this
  exact this
def conL (l : List UInt8) : Option (List UInt8) := (conE l 0).bind fun e => if goodL (l.take (trimN l e)) = true then some (l.take (trimN l e)) else none
theorem sayL_con (l : List UInt8) : sayL l = conL l := by
 obtain ⟨i1, i2⟩ := conE_endAt _ l 0 (Nat.le_refl _) (Nat.zero_le _)
 unfold sayL conL
 cases he : endAt l 0 with
 | some e =>
  obtain ⟨h1, h2⟩ := i1 e he
  have hel := endAt_le _ l 0 e (Nat.le_refl _) he
  have hje := trimN_le l e
  rw [h1]
  show some _ = if goodL (l.take (trimN l e)) = true then some (l.take (trimN l e)) else none
  rw [if_pos ((goodL_take (by omega)).2 fun j hj => h2 j (Nat.zero_le _) (by omega))]
 | none =>
  rcases i2 he with h | ⟨e, j, h1, h2, h3, h4⟩
  ·rw [h]; rfl
  ·have hel := conE_ge _ l 0 e (Nat.le_refl _) (Nat.zero_le _) h1
   have hje := trimN_le l e
   have hjt : j < trimN l e := by
    rcases Nat.lt_or_ge j (trimN l e) with h | h
    ·exact h
    ·have := trimN_space h h3
     rw [this] at h4
     exact absurd h4 (by decide)
   rw [h1]
   show none = if goodL (l.take (trimN l e)) = true then some (l.take (trimN l e)) else none
   rw [if_neg]
   intro hg
   have := (goodL_take (by omega)).1 hg j hjt
   rw [h4] at this
   cases this
theorem trimR_take {l : List UInt8} {e : Nat} (he : e ≤ l.length) : Lib.trimRightB (l.take e) 32 = l.take (trimN l e) := by
 have hje := trimN_le l e
 rw [Lib.trimRightB_take (l.take e) 32 (trimN l e) (by rw [List.length_take]; omega), List.take_take, Nat.min_eq_left hje]
 ·intro j b hj hb
  have hjl : j < (l.take e).length := by
   rcases Nat.lt_or_ge j (l.take e).length with h | h
   ·exact h
   ·rw [List.getElem?_eq_none h] at hb; cases hb
  rw [List.length_take] at hjl
  rw [List.getElem?_take_of_lt (by omega)] at hb
  have := trimN_space hj (show j < e by omega)
  rw [List.getD_eq_getElem?_getD, hb] at this
  exact this
 ·intro b h0 hb
  rw [List.getElem?_take_of_lt (by omega)] at hb
  have : l.getD (trimN l e - 1) 0 ≠ 32 := by
   clear he hb hje
   induction e with
   | zero => exact absurd h0 (Nat.lt_irrefl _)
   | succ n ih =>
    unfold trimN at h0 ⊢
    by_cases e : l.getD n 0 = 32
    ·rw [if_pos e] at h0 ⊢; exact ih h0
    ·rw [if_neg e]; exact e
  rw [List.getD_eq_getElem?_getD, hb] at this
  exact this
theorem trimL_drop (l : List UInt8) : Lib.trimLeftB l 32 = l.drop (indN l) := by
 unfold Lib.trimLeftB indN
 induction l with
 | nil => rfl
 | cons c l ih =>
  rw [List.dropWhile_cons, List.takeWhile_cons]
  by_cases h : c = 32
  ·subst h
   simp only [beq_self_eq_true, decide_true, if_true, List.length_cons, List.drop_succ_cons]
   exact ih
  ·rw [beq_eq_false_iff_ne.2 h, decide_eq_false h]; rfl
def rowsL : List UInt8 → List (List UInt8)
 | [] => [[]]
 | c :: l => if c = 10 then [] :: rowsL l else match rowsL l with | r :: rs => (c :: r) :: rs | [] => [[c]]
theorem rows_split (l : List UInt8) : Lib.splitK [10] 0 (Lib.count l [10]) l = rowsL l := by
 induction l with
 | nil => rw [Lib.count_one]; rfl
 | cons c l ih =>
  unfold rowsL
  by_cases h : c = 10
  ·subst h
   have hix : Lib.index (10 :: l) [10] = 0 := by rw [Lib.index]; simp [List.isPrefixOf]
   rw [Lib.count_cons_eq, Nat.add_comm, if_pos rfl, Lib.splitK, hix, ← ih]
   rfl
  ·rw [Lib.count_cons_ne c 10 l h, if_neg h]
   have hp : ([10] : List UInt8).isPrefixOf (c :: l) = false := by simp [List.isPrefixOf, Ne.symm h]
   have hix : Lib.index (c :: l) [10] = if Lib.index l [10] == -1 then -1 else Lib.index l [10] + 1 := by rw [Lib.index, hp]; simp
   cases hk : Lib.count l [10] with
   | zero =>
    rw [hk] at ih
    rw [← ih]; rfl
   | succ k =>
    obtain ⟨i, hi⟩ := Lib.index_of_count (s := l) (old := [10]) (by omega)
    rw [hi] at hix
    have : ((i : Int) == -1) = false := beq_eq_false_iff_ne.2 (by omega)
    rw [this] at hix
    simp only [Bool.false_eq_true, if_false] at hix
    rw [hk, Lib.splitK, hi, this] at ih
    have h2 : ((i : Int) + 1 == -1) = false := beq_eq_false_iff_ne.2 (by omega)
    rw [Lib.splitK, hix, h2, ← ih]
    have e1 : ((i : Int) + 1).toNat = i + 1 := by omega
    rw [e1, Int.toNat_natCast]
    rfl
theorem rowN_lf (l : List UInt8) : rowN (10 :: l) = 0 := rfl
theorem rowN_ne {c : UInt8} (l : List UInt8) (h : c ≠ 10) : rowN (c :: l) = rowN l + 1 := by
 unfold rowN
 rw [List.takeWhile_cons, decide_eq_true h]; rfl
theorem rowsL_row (l : List UInt8) : rowsL l = l.take (rowN l) :: (if rowN l < l.length then rowsL (l.drop (rowN l + 1)) else []) := by
 induction l with
 | nil => rfl
 | cons c l ih =>
  rw [rowsL]
  by_cases h : c = 10
  ·subst h
   rw [if_pos rfl, rowN_lf, if_pos (show 0 < (10 :: l).length from Nat.succ_pos _)]
   rfl
  ·rw [if_neg h, rowN_ne l h, ih]
   show (c :: l.take (rowN l)) :: _ = _
   rw [List.take_succ_cons, List.length_cons, List.drop_succ_cons]
   congr 1
   by_cases h2 : rowN l < l.length
   ·rw [if_pos h2, if_pos (by omega)]
   ·rw [if_neg h2, if_neg (by omega)]
def walkL (no : Nat) (acc : List Ln) : List (List UInt8) → List Ln × Nat × Int
 | [] => (acc, 0, 0)
 | r :: rs => match oneL r with
  | none => ([], no + 1, 3)
  | some (k, t) => walkL (no + 1) (if t = [] then acc else acc ++ [⟨no + 1, k, t⟩]) rs
theorem oneL_nil : oneL [] = some (0, []) := by
 unfold oneL sayL
 show (match (endAt [] 0).map fun e => ([] : List UInt8).take (trimN [] e) with | none => none | some t => _) = _
 rw [show endAt [] 0 = some 0 from endAt_out (Nat.le_refl _)]
 rfl
theorem walk_split (n : Nat) : ∀ (l : List UInt8) (no : Nat) (acc : List Ln), l.length ≤ n → walkL no acc (rowsL l) = splitL no acc l := by
 induction n with
 | zero =>
  intro l no acc hl
  obtain rfl : l = [] := List.length_eq_zero_iff.1 (by omega)
  rw [splitL_nil]
  show (match oneL [] with | none => _ | some (k, t) => _) = _
  rw [oneL_nil]
  rfl
 | succ n ih =>
  intro l no acc hl
  by_cases he : l = []
  ·subst he
   rw [splitL_nil]
   show (match oneL [] with | none => _ | some (k, t) => _) = _
   rw [oneL_nil]
   rfl
  ·rw [rowsL_row, walkL]
   have hpos := List.length_pos_iff.2 he
   cases ho : oneL (l.take (rowN l)) with
   | none => rw [splitL_bad he ho]
   | some p =>
    obtain ⟨k, t⟩ := p
    rw [splitL_next he ho]
    show walkL (no + 1) _ _ = _
    by_cases hr : rowN l < l.length
    ·rw [if_pos hr, ih _ _ _ (by rw [List.length_drop]; omega)]
    ·rw [if_neg hr, List.drop_of_length_le (by omega), splitL_nil]; rfl
end Q6
end Go.Proofs.YtmdgpejedbkkdaaGreatDoor
