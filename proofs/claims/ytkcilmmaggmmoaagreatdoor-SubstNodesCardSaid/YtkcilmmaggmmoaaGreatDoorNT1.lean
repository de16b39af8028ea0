/- NamListMath, NodMath -/
import Derived.Lib.SlicesCompact
import Derived.Shelf.Spec.SearchS
import Derived.Sort.Walk0
import Derived.Test.YtkcilmmaggmmoaaGreatDoorRows
set_option linter.unusedVariables false
set_option linter.unusedSimpArgs false
set_option maxRecDepth 100000
set_option maxHeartbeats 16000000
namespace Go.Proofs.YtkcilmmaggmmoaaGreatDoor
namespace Nw
end Nw
end Go.Proofs.YtkcilmmaggmmoaaGreatDoor
namespace Go.Proofs.YtkcilmmaggmmoaaGreatDoor
namespace Nw
abbrev L8 := List UInt8
def Asc (l : List L8) : Prop := l.Pairwise (· < ·)
def sortL (l : List L8) : List L8 := Lib.compact (l.mergeSort fun x y => decide (x ≤ y))
theorem lt_irr (x : L8) : ¬ x < x := List.lt_irrefl x
theorem lt_tr {x y z : L8} (h : x < y) (k : y < z) : x < z := List.lt_trans h k
theorem le_of_nlt {x y : L8} (h : ¬ x < y) : y ≤ x := List.not_lt.1 h
theorem lt_of_le_ne {x y : L8} (h : x ≤ y) (k : x ≠ y) : x < y := by
 rcases Classical.em (x < y) with h1 | h1
 ·exact h1
 ·exact absurd (List.le_antisymm h (le_of_nlt h1)) k
theorem le_of_lt {x y : L8} (h : x < y) : x ≤ y := List.le_of_lt h
theorem asc_unique : ∀ {a b : List L8}, Asc a → Asc b → (∀ x, x ∈ a ↔ x ∈ b) → a = b
 | [], [], _, _, _ => rfl
 | [], y :: b, _, _, h => absurd ((h y).2 List.mem_cons_self) List.not_mem_nil
 | x :: a, [], _, _, h => absurd ((h x).1 List.mem_cons_self) List.not_mem_nil
 | x :: a, y :: b, ha, hb, h => by
  have ha' := List.pairwise_cons.1 ha
  have hb' := List.pairwise_cons.1 hb
  have e : x = y := by
   rcases List.mem_cons.1 ((h x).1 List.mem_cons_self) with e | e
   ·exact e
   ·rcases List.mem_cons.1 ((h y).2 List.mem_cons_self) with e2 | e2
    ·exact e2.symm
    ·exact absurd (lt_tr (hb'.1 x e) (ha'.1 y e2)) (lt_irr _)
  subst e
  rw [asc_unique ha'.2 hb'.2 fun z => ⟨fun hz => ?_, fun hz => ?_⟩]
  ·rcases List.mem_cons.1 ((h z).1 (List.mem_cons_of_mem _ hz)) with e | e
   ·subst e; exact absurd (ha'.1 _ hz) (lt_irr _)
   ·exact e
  ·rcases List.mem_cons.1 ((h z).2 (List.mem_cons_of_mem _ hz)) with e | e
   ·subst e; exact absurd (hb'.1 _ hz) (lt_irr _)
   ·exact e
theorem compactUpTo_facts (d : Array L8) (hd : ∀ i j, i < j → j < d.size → d[i]! ≤ d[j]!) : ∀ m, m ≤ d.size → Asc (Lib.compactUpTo d m) ∧ ∀ x, x ∈ Lib.compactUpTo d m ↔ ∃ j, j < m ∧ d[j]! = x
 | 0, _ => by
  refine ⟨by simp [Lib.compactUpTo, Asc], fun x => ?_⟩
  simp [Lib.compactUpTo]
 | m + 1, hm => by
  obtain ⟨ih1, ih2⟩ := compactUpTo_facts d hd m (by omega)
  rw [Lib.compactUpTo_succ]
  by_cases hk : Lib.keeps d m = true
  ·rw [if_pos hk]
   constructor
   ·unfold Asc at ih1 ⊢
    rw [List.pairwise_append]
    refine ⟨ih1, by simp, fun x hx y hy => ?_⟩
    obtain ⟨j, hj, rfl⟩ := (ih2 x).1 hx
    obtain rfl : y = d[m]! := by simpa using hy
    have hkk : m = 0 ∨ d[m]! ≠ d[m - 1]! := by unfold Lib.keeps at hk; exact of_decide_eq_true hk
    rcases hkk with h0 | h0
    ·omega
    ·have h1 : d[j]! ≤ d[m - 1]! := by
      rcases Nat.lt_or_ge j (m - 1) with h2 | h2
      ·exact hd j (m - 1) h2 (by omega)
      ·obtain rfl : j = m - 1 := by omega
       exact List.le_refl _
     have h2 : d[m - 1]! < d[m]! := lt_of_le_ne (hd (m - 1) m (by omega) (by omega)) (fun e => h0 e.symm)
     exact List.lt_of_le_of_lt h1 h2
   ·intro x
    rw [List.mem_append, ih2 x]
    constructor
    ·rintro (⟨j, hj, rfl⟩ | h)
     ·exact ⟨j, by omega, rfl⟩
     ·obtain rfl : x = d[m]! := by simpa using h
      exact ⟨m, by omega, rfl⟩
    ·rintro ⟨j, hj, rfl⟩
     rcases Nat.lt_or_ge j m with h | h
     ·exact .inl ⟨j, h, rfl⟩
     ·obtain rfl : j = m := by omega
      exact .inr (by simp)
  ·rw [if_neg hk, List.append_nil]
   have hkk : ¬ (m = 0 ∨ d[m]! ≠ d[m - 1]!) := by unfold Lib.keeps at hk; exact fun h => hk (decide_eq_true h)
   have h0 : m ≠ 0 := fun e => hkk (.inl e)
   have h1 : d[m]! = d[m - 1]! := Classical.byContradiction fun e => hkk (.inr e)
   refine ⟨ih1, fun x => ?_⟩
   rw [ih2 x]
   constructor
   ·rintro ⟨j, hj, rfl⟩; exact ⟨j, by omega, rfl⟩
   ·rintro ⟨j, hj, rfl⟩
    rcases Nat.lt_or_ge j m with h | h
    ·exact ⟨j, h, rfl⟩
    ·obtain rfl : j = m := by omega
     exact ⟨j - 1, by omega, h1.symm⟩
theorem ms_sorted (l : List L8) : (l.mergeSort fun x y => decide (x ≤ y)).Pairwise (· ≤ ·) := by
 have := List.pairwise_mergeSort (le := fun (x y : L8) => decide (x ≤ y)) (fun a b c h k => decide_eq_true (List.le_trans (of_decide_eq_true h) (of_decide_eq_true k))) (fun a b => by
  rcases List.le_total a b with h | h
  ·simp [h]
  ·simp [h]) l
 exact this.imp fun h => of_decide_eq_true h
theorem sortL_facts (l : List L8) : Asc (sortL l) ∧ ∀ x, x ∈ sortL l ↔ x ∈ l := by
 have hs := ms_sorted l
 generalize hm : (l.mergeSort fun x y => decide (x ≤ y)) = m at hs
 have hp : m.Perm l := hm ▸ List.mergeSort_perm l _
 have hd : ∀ i j, i < j → j < m.toArray.size → m.toArray[i]! ≤ m.toArray[j]! := fun i j hij hj => by
  have hj' : j < m.length := by simpa using hj
  have := List.pairwise_iff_getElem.1 hs i j (by omega) hj' hij
  rw [getElem!_pos m.toArray i (by simp; omega), getElem!_pos m.toArray j (by simpa using hj')]
  simpa using this
 obtain ⟨h1, h2⟩ := compactUpTo_facts m.toArray hd m.length (by simp)
 have e : sortL l = Lib.compactUpTo m.toArray m.length := by unfold sortL; rw [hm]; rfl
 rw [e]
 refine ⟨h1, fun x => ?_⟩
 rw [h2 x, ← hp.mem_iff]
 constructor
 ·rintro ⟨j, hj, rfl⟩
  rw [getElem!_pos m.toArray j (by simpa using hj)]; simp
 ·intro hx
  obtain ⟨j, hj, rfl⟩ := List.mem_iff_getElem.1 hx
  exact ⟨j, hj, by rw [getElem!_pos m.toArray j (by simpa using hj)]; simp⟩
theorem sortL_asc (l : List L8) : Asc (sortL l) := (sortL_facts l).1
theorem mem_sortL {l : List L8} {x : L8} : x ∈ sortL l ↔ x ∈ l := (sortL_facts l).2 x
theorem sortL_nil : sortL [] = [] := asc_unique (sortL_asc []) List.Pairwise.nil fun x => by rw [mem_sortL]
theorem asc_get {S : List L8} (h : Asc S) {i j : Nat} (hij : i < j) (hj : j < S.length) : S[i] < S[j] := List.pairwise_iff_getElem.1 h i j (by omega) hj hij
theorem asc_le {S : List L8} (h : Asc S) {i j : Nat} (hij : i ≤ j) (hj : j < S.length) : S[i] ≤ S[j] := by
 rcases Nat.lt_or_eq_of_le hij with h1 | rfl
 ·exact le_of_lt (asc_get h h1 hj)
 ·exact List.le_refl _
theorem sortL_length_le (l : List L8) : (sortL l).length ≤ l.length := by
 have : (Lib.compact (l.mergeSort fun x y => decide (x ≤ y))).length ≤ (l.mergeSort fun x y => decide (x ≤ y)).length := by
  unfold Lib.compact Lib.compactUpTo
  rw [List.length_map]
  exact Nat.le_trans (List.length_filter_le _ _) (by simp)
 rwa [List.length_mergeSort] at this
def cand (l : List L8) (k : Nat) (y : L8) : Prop := k = 0 ∨ (sortL l).getD (k - 1) [] < y
theorem cand_mem {l : List L8} {k : Nat} (hk : k ≤ (sortL l).length) {y : L8} (hy : y ∈ l) (hc : cand l k y) : ∃ m, ∃ h : m < (sortL l).length, k ≤ m ∧ (sortL l)[m] = y := by
 obtain ⟨m, hm, rfl⟩ := List.mem_iff_getElem.1 (mem_sortL.2 hy)
 refine ⟨m, hm, ?_, rfl⟩
 rcases hc with h0 | h0
 ·omega
 ·refine Nat.le_of_not_lt fun hl => ?_
  rw [List.getD_eq_getElem?_getD, List.getElem?_eq_getElem (by omega)] at h0
  have h1 := asc_le (sortL_asc l) (show m ≤ k - 1 by omega) (by omega)
  exact lt_irr _ (List.lt_of_le_of_lt h1 h0)
theorem cand_next {l : List L8} {k : Nat} (hk : k < (sortL l).length) : (sortL l)[k] ∈ l ∧ cand l k (sortL l)[k] := by
 refine ⟨mem_sortL.1 (List.getElem_mem _), ?_⟩
 rcases Nat.eq_zero_or_pos k with h | h
 ·exact .inl h
 ·refine .inr ?_
  rw [List.getD_eq_getElem?_getD, List.getElem?_eq_getElem (by omega)]
  exact asc_get (sortL_asc l) (by omega) hk
theorem none_left {l : List L8} {k : Nat} (hk : k ≤ (sortL l).length) (h : ∀ y ∈ l, ¬ cand l k y) : k = (sortL l).length := by
 refine Nat.le_antisymm hk (Nat.le_of_not_lt fun hl => ?_)
 obtain ⟨h1, h2⟩ := cand_next hl
 exact h _ h1 h2
theorem next_is {l : List L8} {k : Nat} (hk : k ≤ (sortL l).length) {y : L8} (hy : y ∈ l) (hc : cand l k y) (hmin : ∀ z ∈ l, cand l k z → y ≤ z) : ∃ h : k < (sortL l).length, (sortL l)[k] = y := by
 obtain ⟨m, hm, hkm, rfl⟩ := cand_mem hk hy hc
 have hk' : k < (sortL l).length := by omega
 refine ⟨hk', ?_⟩
 obtain ⟨h1, h2⟩ := cand_next hk'
 exact List.le_antisymm (asc_le (sortL_asc l) hkm hm) (hmin _ h1 h2)
end Nw
end Go.Proofs.YtkcilmmaggmmoaaGreatDoor
namespace Go.Proofs.YtkcilmmaggmmoaaGreatDoor
namespace N8
open Nw
inductive Nd where
 | mk (kind : Int) (text : L8) (keys : List L8) (kids : List Nd)
def Nd.kind : Nd → Int | .mk k _ _ _ => k
def Nd.kids : Nd → List Nd | .mk _ _ _ ds => ds
def nul : Nd := .mk 0 [] [] []
mutual
def cntT : Nd → Nat
 | .mk _ _ _ ds => 1 + cntL ds
def cntL : List Nd → Nat
 | [] => 0
 | d :: ds => cntT d + cntL ds
end
mutual
def depT : Nd → Nat
 | .mk _ _ _ ds => 1 + depL ds
def depL : List Nd → Nat
 | [] => 0
 | d :: ds => max (depT d) (depL ds)
end
mutual
def sameT : Nd → Nd → Bool
 | .mk k t ks ds, .mk k' t' ks' ds' => decide (k = k') && decide (t = t') && decide (ks = ks') && sameL ds ds'
def sameL : List Nd → List Nd → Bool
 | [], [] => true
 | d :: ds, e :: es => sameT d e && sameL ds es
 | [], _ :: _ => false
 | _ :: _, [] => false
end
mutual
def shortT : Nd → Bool
 | .mk _ t ks ds => decide (t.length ≤ 200) && (ks.all fun k => decide (k.length ≤ 200)) && shortL ds
def shortL : List Nd → Bool
 | [] => true
 | d :: ds => shortT d && shortL ds
end
def formB (k : Int) (t : L8) (ks : List L8) (n : Nat) : Bool :=
 !(decide (k ≠ 1) && decide (0 < t.length)) && !(decide (k ≠ 3) && decide (0 < ks.length)) && !(decide (k < 2) && decide (0 < n))
def keysB (k : Int) (ks : List L8) (n : Nat) (left : Int) : Bool :=
 !(decide (k = 3) && (decide (ks.length ≠ n) || decide (left < (n : Int)) || decide ((sortL ks).length ≠ ks.length)))
mutual
def leftT : Nd → Int → Int → Int
 | .mk k t ks ds, deep, left =>
  if left - 1 < 0 ∨ 12 < deep ∨ k < 0 ∨ 3 < k then -1
  else if formB k t ks ds.length = false then -1
  else if keysB k ks ds.length (left - 1) = false then -1
  else leftL ds (deep + 1) (left - 1)
def leftL : List Nd → Int → Int → Int
 | [], _, left => left
 | d :: ds, deep, left => if leftT d deep left < 0 then -1 else leftL ds deep (leftT d deep left)
end
def okT (most : Int) (d : Nd) : Bool := decide (0 ≤ leftT d 1 most)
def smallT (d : Nd) (most : Int) : Bool := okT most d && shortT d
mutual
def textsT : Nd → List L8
 | .mk k t _ ds => (if k = 1 then [t] else []) ++ textsL ds
def textsL : List Nd → List L8
 | [] => []
 | d :: ds => textsT d ++ textsL ds
end
theorem cntT_pos (d : Nd) : 1 ≤ cntT d := by cases d; unfold cntT; omega
theorem cntL_mem : ∀ {ds : List Nd} {d : Nd}, d ∈ ds → cntT d ≤ cntL ds
 | e :: ds, d, h => by
  unfold cntL
  rcases List.mem_cons.1 h with rfl | h
  ·omega
  ·have := cntL_mem h; omega
theorem cntL_len : ∀ (ds : List Nd), ds.length ≤ cntL ds
 | [] => Nat.zero_le _
 | d :: ds => by
  unfold cntL
  have := cntL_len ds
  have := cntT_pos d
  rw [List.length_cons]; omega
theorem cntL_app : ∀ (a b : List Nd), cntL (a ++ b) = cntL a + cntL b
 | [], b => by simp [cntL]
 | d :: a, b => by
  rw [List.cons_append, cntL, cntL, cntL_app a b]; omega
theorem cntL_take_succ {ds : List Nd} {k : Nat} (h : k < ds.length) : cntL (ds.take (k + 1)) = cntL (ds.take k) + cntT (ds[k]'h) := by
 rw [List.take_succ_eq_append_getElem h, cntL_app]
 rfl
theorem cntL_take_le (ds : List Nd) (k : Nat) : cntL (ds.take k) ≤ cntL ds := by
 have := cntL_app (ds.take k) (ds.drop k)
 rw [List.take_append_drop] at this
 omega
theorem depL_take_succ {ds : List Nd} {k : Nat} (h : k < ds.length) : depL (ds.take (k + 1)) = max (depL (ds.take k)) (depT (ds[k]'h)) := by
 induction ds generalizing k with
 | nil => cases h
 | cons d ds ih =>
  cases k with
  | zero => show max (depT d) 0 = max 0 (depT d); omega
  | succ k =>
   rw [List.take_succ_cons, List.take_succ_cons, depL, depL, ih (Nat.lt_of_succ_lt_succ h)]
   rw [List.getElem_cons_succ]; omega
theorem depT_cnt (n : Nat) : ∀ (d : Nd), cntT d ≤ n → depT d ≤ cntT d := by
 induction n with
 | zero => intro d h; have := cntT_pos d; omega
 | succ n ih =>
  intro d h
  cases d with
  | mk k t ks ds =>
   rw [cntT] at h
   rw [depT, cntT]
   have : ∀ (es : List Nd), cntL es ≤ n → depL es ≤ cntL es := by
    intro es
    induction es with
    | nil => intro _; exact Nat.le_refl _
    | cons e es ihe =>
     intro hes
     rw [cntL] at hes
     have h1 := ih e (by omega)
     have h2 := ihe (by omega)
     rw [depL, cntL]; omega
   have := this ds (by omega)
   omega
theorem sameL_len : ∀ {a b : List Nd}, sameL a b = true → a.length = b.length
 | [], [], _ => rfl
 | _ :: a, _ :: b, h => by
  rw [sameL, Bool.and_eq_true] at h
  rw [List.length_cons, List.length_cons, sameL_len h.2]
 | [], _ :: _, h => by cases h
 | _ :: _, [], h => by cases h
theorem sameT_refl (n : Nat) : ∀ d : Nd, cntT d ≤ n → sameT d d = true := by
 induction n with
 | zero => intro d h; have := cntT_pos d; omega
 | succ n ih =>
  intro d h
  cases d with
  | mk k t ks ds =>
   rw [cntT] at h
   have : ∀ (es : List Nd), cntL es ≤ n → sameL es es = true := by
    intro es
    induction es with
    | nil => intro _; rfl
    | cons e es ihe =>
     intro hes
     rw [cntL] at hes
     rw [sameL, ih e (by omega), ihe (by omega)]; rfl
   rw [sameT, decide_eq_true rfl, decide_eq_true rfl, decide_eq_true rfl, this ds (by omega)]; rfl
theorem sameT_eq (n : Nat) : ∀ (d e : Nd), cntT d ≤ n → sameT d e = true → d = e := by
 induction n with
 | zero => intro d e h; have := cntT_pos d; omega
 | succ n ih =>
  intro d e h hs
  cases d with
  | mk k t ks ds =>
   cases e with
   | mk k' t' ks' ds' =>
    rw [cntT] at h
    have : ∀ (a b : List Nd), cntL a ≤ n → sameL a b = true → a = b := by
     intro a
     induction a with
     | nil => intro b _ hb; cases b with | nil => rfl | cons x b => cases hb
     | cons x a iha =>
      intro b hb hs
      cases b with
      | nil => cases hs
      | cons y b =>
       rw [cntL] at hb
       rw [sameL, Bool.and_eq_true] at hs
       rw [ih x y (by omega) hs.1, iha b (by omega) hs.2]
    rw [sameT, Bool.and_eq_true, Bool.and_eq_true, Bool.and_eq_true] at hs
    obtain ⟨⟨⟨h1, h2⟩, h3⟩, h4⟩ := hs
    rw [of_decide_eq_true h1, of_decide_eq_true h2, of_decide_eq_true h3, this ds ds' (by omega) h4]
theorem sameT_iff {d e : Nd} : sameT d e = true ↔ d = e := ⟨sameT_eq _ d e (Nat.le_refl _), fun h => by subst h; exact sameT_refl _ d (Nat.le_refl _)⟩
mutual
theorem leftT_cnt : ∀ (d : Nd) (deep left : Int), 0 ≤ leftT d deep left → leftT d deep left = left - (cntT d : Int)
 | .mk k t ks ds, deep, left, h => by
  rw [leftT] at h ⊢
  split at h
  ·exact absurd h (by decide)
  ·rename_i h1
   rw [if_neg h1]
   split at h
   ·exact absurd h (by decide)
   ·rename_i h2
    rw [if_neg h2]
    split at h
    ·exact absurd h (by decide)
    ·rename_i h3
     rw [if_neg h3, leftL_cnt ds (deep + 1) (left - 1) h, cntT]; omega
theorem leftL_cnt : ∀ (ds : List Nd) (deep left : Int), 0 ≤ leftL ds deep left → leftL ds deep left = left - (cntL ds : Int)
 | [], deep, left, h => by rw [leftL, cntL]; omega
 | d :: ds, deep, left, h => by
  rw [leftL] at h ⊢
  split at h
  ·exact absurd h (by decide)
  ·rename_i h1
   rw [if_neg h1]
   have e := leftT_cnt d deep left (by omega)
   rw [leftL_cnt ds deep _ h, e, cntL]; omega
end
inductive Fine : Nd → Prop
 | mk {k : Int} {t : L8} {ks : List L8} {ds : List Nd} (h0 : 0 ≤ k) (h3 : k ≤ 3) (hf : formB k t ks ds.length = true) (hk : k = 3 → ks.length = ds.length ∧ (sortL ks).length = ks.length) (hd : ∀ d ∈ ds, Fine d) : Fine (.mk k t ks ds)
mutual
theorem leftT_fine : ∀ (d : Nd) (deep left : Int), 0 ≤ leftT d deep left → Fine d
 | .mk k t ks ds, deep, left, h => by
  rw [leftT] at h
  split at h
  ·exact absurd h (by decide)
  ·rename_i h1
   split at h
   ·exact absurd h (by decide)
   ·rename_i h2
    split at h
    ·exact absurd h (by decide)
    ·rename_i h3
     refine .mk (by omega) (by omega) (by simpa using h2) ?_ (leftL_fine ds (deep + 1) (left - 1) h)
     intro hk
     unfold keysB at h3
     rw [decide_eq_true hk] at h3
     simp only [Bool.true_and, Bool.not_eq_false', Bool.or_eq_true, decide_eq_true_eq, not_or] at h3
     simp at h3
     exact ⟨h3.1.1, h3.2⟩
theorem leftL_fine : ∀ (ds : List Nd) (deep left : Int), 0 ≤ leftL ds deep left → ∀ d ∈ ds, Fine d
 | [], _, _, _ => fun d hd => by cases hd
 | e :: ds, deep, left, h => by
  rw [leftL] at h
  split at h
  ·exact absurd h (by decide)
  ·rename_i h1
   intro d hd
   rcases List.mem_cons.1 hd with he | hd
   ·rw [he]; exact leftT_fine e deep left (by omega)
   ·exact leftL_fine ds deep _ h d hd
end
theorem ok_fine {most : Int} {d : Nd} (h : okT most d = true) : Fine d := leftT_fine d 1 most (of_decide_eq_true h)
end N8
end Go.Proofs.YtkcilmmaggmmoaaGreatDoor
