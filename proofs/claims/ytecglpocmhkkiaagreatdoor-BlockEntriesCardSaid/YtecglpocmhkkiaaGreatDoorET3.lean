/- NamListMath, NodMath, NodMath2, FloMath, NamRd, NodMem -/
import Derived.Below
import Derived.BigQuiet
import Derived.Deep.LoopGhost
import Derived.Deep.QuietTactic
import Derived.Laws.OwnMore
import Derived.Lib.Hide
import Derived.Lib.OwnBridge
import Derived.Lib.SlicesCompact
import Derived.Lib.TrimByte
import Derived.ProofKit
import Derived.Shelf.Small.Strs
import Derived.Shelf.Spec.SearchS
import Derived.SliceStrings
import Derived.Sort.OwnSorted
import Derived.Sort.Walk0
import Derived.Test.YtecglpocmhkkiaaGreatDoorET2
import Derived.Test.YtecglpocmhkkiaaGreatDoorRows
import Derived.WalkKit
set_option linter.unusedVariables false
set_option linter.unusedSimpArgs false
set_option maxRecDepth 100000
set_option maxHeartbeats 16000000
namespace Go.Proofs.YtecglpocmhkkiaaGreatDoor
namespace Nw
abbrev L8 := List UInt8
def Asc (l : List L8) : Prop := l.Pairwise (· < ·)
def sortL (l : List L8) : List L8 := Lib.compact (l.mergeSort fun x y => decide (x ≤ y))
theorem lt_irr (x : L8) : ¬ x < x := List.lt_irrefl x
theorem lt_tr {x y z : L8} (h : x < y) (k : y < z) : x < z := List.lt_trans h k
theorem le_of_nlt {x y : L8} (h : ¬ x < y) : y ≤ x := List.not_lt.1 h
theorem lt_of_le_ne {x y : L8} (h : x ≤ y) (k : x ≠ y) : x < y := by
 rcases Classical.em (x < y) with h1 | h1
 ·exact h1
 ·exact absurd (List.le_antisymm h (le_of_nlt h1)) k
theorem asc_unique : ∀ {a b : List L8}, Asc a → Asc b → (∀ x, x ∈ a ↔ x ∈ b) → a = b
 | [], [], _, _, _ => rfl
 | [], y :: b, _, _, h => absurd ((h y).2 List.mem_cons_self) List.not_mem_nil
 | x :: a, [], _, _, h => absurd ((h x).1 List.mem_cons_self) List.not_mem_nil
 | x :: a, y :: b, ha, hb, h => by
  have ha' := List.pairwise_cons.1 ha
  have hb' := List.pairwise_cons.1 hb
  have e : x = y := by
   rcases List.mem_cons.1 ((h x).1 List.mem_cons_self) with e | e
   ·exact e
   ·rcases List.mem_cons.1 ((h y).2 List.mem_cons_self) with e2 | e2
    ·exact e2.symm
    ·exact absurd (lt_tr (hb'.1 x e) (ha'.1 y e2)) (lt_irr _)
  subst e
  rw [asc_unique ha'.2 hb'.2 fun z => ⟨fun hz => ?_, fun hz => ?_⟩]
  ·rcases List.mem_cons.1 ((h z).1 (List.mem_cons_of_mem _ hz)) with e | e
   ·subst e; exact absurd (ha'.1 _ hz) (lt_irr _)
   ·exact e
  ·rcases List.mem_cons.1 ((h z).2 (List.mem_cons_of_mem _ hz)) with e | e
   ·subst e; exact absurd (hb'.1 _ hz) (lt_irr _)
   ·exact e
theorem compactUpTo_facts (d : Array L8) (hd : ∀ i j, i < j → j < d.size → d[i]! ≤ d[j]!) : ∀ m, m ≤ d.size → Asc (Lib.compactUpTo d m) ∧ ∀ x, x ∈ Lib.compactUpTo d m ↔ ∃ j, j < m ∧ d[j]! = x
 | 0, _ => by
  refine ⟨by simp [Lib.compactUpTo, Asc], fun x => ?_⟩
  simp [Lib.compactUpTo]
 | m + 1, hm => by
  obtain ⟨ih1, ih2⟩ := compactUpTo_facts d hd m (by omega)
  rw [Lib.compactUpTo_succ]
  by_cases hk : Lib.keeps d m = true
  ·rw [if_pos hk]
   constructor
   ·unfold Asc at ih1 ⊢
    rw [List.pairwise_append]
    refine ⟨ih1, by simp, fun x hx y hy => ?_⟩
    obtain ⟨j, hj, rfl⟩ := (ih2 x).1 hx
    obtain rfl : y = d[m]! := by simpa using hy
    have hkk : m = 0 ∨ d[m]! ≠ d[m - 1]! := by unfold Lib.keeps at hk; exact of_decide_eq_true hk
    rcases hkk with h0 | h0
    ·omega
    ·have h1 : d[j]! ≤ d[m - 1]! := by
      rcases Nat.lt_or_ge j (m - 1) with h2 | h2
      ·exact hd j (m - 1) h2 (by omega)
      ·obtain rfl : j = m - 1 := by omega
       exact List.le_refl _
     have h2 : d[m - 1]! < d[m]! := lt_of_le_ne (hd (m - 1) m (by omega) (by omega)) (fun e => h0 e.symm)
     exact List.lt_of_le_of_lt h1 h2
   ·intro x
    rw [List.mem_append, ih2 x]
    constructor
    ·rintro (⟨j, hj, rfl⟩ | h)
     ·exact ⟨j, by omega, rfl⟩
     ·obtain rfl : x = d[m]! := by simpa using h
      exact ⟨m, by omega, rfl⟩
    ·rintro ⟨j, hj, rfl⟩
     rcases Nat.lt_or_ge j m with h | h
     ·exact .inl ⟨j, h, rfl⟩
     ·obtain rfl : j = m := by omega
      exact .inr (by simp)
  ·rw [if_neg hk, List.append_nil]
   have hkk : ¬ (m = 0 ∨ d[m]! ≠ d[m - 1]!) := by unfold Lib.keeps at hk; exact fun h => hk (decide_eq_true h)
   have h0 : m ≠ 0 := fun e => hkk (.inl e)
   have h1 : d[m]! = d[m - 1]! := Classical.byContradiction fun e => hkk (.inr e)
   refine ⟨ih1, fun x => ?_⟩
   rw [ih2 x]
   constructor
   ·rintro ⟨j, hj, rfl⟩; exact ⟨j, by omega, rfl⟩
   ·rintro ⟨j, hj, rfl⟩
    rcases Nat.lt_or_ge j m with h | h
    ·exact ⟨j, h, rfl⟩
    ·obtain rfl : j = m := by omega
     exact ⟨j - 1, by omega, h1.symm⟩
theorem ms_sorted (l : List L8) : (l.mergeSort fun x y => decide (x ≤ y)).Pairwise (· ≤ ·) := by
 have := List.pairwise_mergeSort (le := fun (x y : L8) => decide (x ≤ y)) (fun a b c h k => decide_eq_true (List.le_trans (of_decide_eq_true h) (of_decide_eq_true k))) (fun a b => by
  rcases List.le_total a b with h | h
  ·simp [h]
  ·simp [h]) l
 exact this.imp fun h => of_decide_eq_true h
theorem sortL_facts (l : List L8) : Asc (sortL l) ∧ ∀ x, x ∈ sortL l ↔ x ∈ l := by
 have hs := ms_sorted l
 generalize hm : (l.mergeSort fun x y => decide (x ≤ y)) = m at hs
 have hp : m.Perm l := hm ▸ List.mergeSort_perm l _
 have hd : ∀ i j, i < j → j < m.toArray.size → m.toArray[i]! ≤ m.toArray[j]! := fun i j hij hj => by
  have hj' : j < m.length := by simpa using hj
  have := List.pairwise_iff_getElem.1 hs i j (by omega) hj' hij
  rw [getElem!_pos m.toArray i (by simp; omega), getElem!_pos m.toArray j (by simpa using hj')]
  simpa using this
 obtain ⟨h1, h2⟩ := compactUpTo_facts m.toArray hd m.length (by simp)
 have e : sortL l = Lib.compactUpTo m.toArray m.length := by unfold sortL; rw [hm]; rfl
 rw [e]
 refine ⟨h1, fun x => ?_⟩
 rw [h2 x, ← hp.mem_iff]
 constructor
 ·rintro ⟨j, hj, rfl⟩
  rw [getElem!_pos m.toArray j (by simpa using hj)]; simp
 ·intro hx
  obtain ⟨j, hj, rfl⟩ := List.mem_iff_getElem.1 hx
  exact ⟨j, hj, by rw [getElem!_pos m.toArray j (by simpa using hj)]; simp⟩
theorem sortL_asc (l : List L8) : Asc (sortL l) := (sortL_facts l).1
theorem mem_sortL {l : List L8} {x : L8} : x ∈ sortL l ↔ x ∈ l := (sortL_facts l).2 x
theorem sortL_eq {l S : List L8} (h : Asc S) (hm : ∀ x, x ∈ S ↔ x ∈ l) : sortL l = S := asc_unique (sortL_asc l) h fun x => by rw [mem_sortL, hm]
theorem sortL_nil : sortL [] = [] := asc_unique (sortL_asc []) List.Pairwise.nil fun x => by rw [mem_sortL]
theorem asc_filter {l : List L8} (p : L8 → Bool) (h : Asc l) : Asc (l.filter p) := List.Pairwise.filter p h
theorem sortL_length_le (l : List L8) : (sortL l).length ≤ l.length := by
 have : (Lib.compact (l.mergeSort fun x y => decide (x ≤ y))).length ≤ (l.mergeSort fun x y => decide (x ≤ y)).length := by
  unfold Lib.compact Lib.compactUpTo
  rw [List.length_map]
  exact Nat.le_trans (List.length_filter_le _ _) (by simp)
 rwa [List.length_mergeSort] at this
theorem count_eq (a b : List L8) : (sortL (a ++ b)).length = ((sortL a).filter fun x => !decide (x ∈ b)).length + (sortL b).length := by
 have e1 : (sortL a).filter (fun x => !decide (x ∈ b)) = (sortL (a ++ b)).filter (fun x => !decide (x ∈ b)) := by
  refine asc_unique (asc_filter _ (sortL_asc _)) (asc_filter _ (sortL_asc _)) fun x => ?_
  rw [List.mem_filter, List.mem_filter, mem_sortL, mem_sortL]
  simp only [List.mem_append, Bool.not_eq_true', decide_eq_false_iff_not]
  constructor
  ·rintro ⟨h, k⟩; exact ⟨.inl h, k⟩
  ·rintro ⟨h | h, k⟩
   ·exact ⟨h, k⟩
   ·exact absurd h k
 have e2 : sortL b = (sortL (a ++ b)).filter (fun x => decide (x ∈ b)) := by
  refine asc_unique (sortL_asc _) (asc_filter _ (sortL_asc _)) fun x => ?_
  rw [List.mem_filter, mem_sortL, mem_sortL]
  simp only [List.mem_append, decide_eq_true_eq]
  constructor
  ·intro h; exact ⟨.inr h, h⟩
  ·rintro ⟨_, h⟩; exact h
 rw [e1]
 conv => rhs; rw [e2]
 have : ∀ S : List L8, S.length = (S.filter fun x => !decide (x ∈ b)).length + (S.filter fun x => decide (x ∈ b)).length := by
  intro S
  induction S with
  | nil => rfl
  | cons x S ih => by_cases h : x ∈ b <;> simp [h] at ih ⊢ <;> omega
 exact this _
end Nw
end Go.Proofs.YtecglpocmhkkiaaGreatDoor
namespace Go.Proofs.YtecglpocmhkkiaaGreatDoor
namespace N8
open Nw
inductive Nd where
 | mk (kind : Int) (text : L8) (keys : List L8) (kids : List Nd)
def Nd.kind : Nd → Int | .mk k _ _ _ => k
def Nd.text : Nd → L8 | .mk _ t _ _ => t
def Nd.kids : Nd → List Nd | .mk _ _ _ ds => ds
def nul : Nd := .mk 0 [] [] []
mutual
def cntT : Nd → Nat
 | .mk _ _ _ ds => 1 + cntL ds
def cntL : List Nd → Nat
 | [] => 0
 | d :: ds => cntT d + cntL ds
end
mutual
def depT : Nd → Nat
 | .mk _ _ _ ds => 1 + depL ds
def depL : List Nd → Nat
 | [] => 0
 | d :: ds => max (depT d) (depL ds)
end
def formB (k : Int) (t : L8) (ks : List L8) (n : Nat) : Bool :=
 !(decide (k ≠ 1) && decide (0 < t.length)) && !(decide (k ≠ 3) && decide (0 < ks.length)) && !(decide (k < 2) && decide (0 < n))
def keysB (k : Int) (ks : List L8) (n : Nat) (left : Int) : Bool :=
 !(decide (k = 3) && (decide (ks.length ≠ n) || decide (left < (n : Int)) || decide ((sortL ks).length ≠ ks.length)))
mutual
def leftT : Nd → Int → Int → Int
 | .mk k t ks ds, deep, left =>
  if left - 1 < 0 ∨ 12 < deep ∨ k < 0 ∨ 3 < k then -1
  else if formB k t ks ds.length = false then -1
  else if keysB k ks ds.length (left - 1) = false then -1
  else leftL ds (deep + 1) (left - 1)
def leftL : List Nd → Int → Int → Int
 | [], _, left => left
 | d :: ds, deep, left => if leftT d deep left < 0 then -1 else leftL ds deep (leftT d deep left)
end
def okT (most : Int) (d : Nd) : Bool := decide (0 ≤ leftT d 1 most)
theorem cntT_pos (d : Nd) : 1 ≤ cntT d := by cases d; unfold cntT; omega
theorem cntL_mem : ∀ {ds : List Nd} {d : Nd}, d ∈ ds → cntT d ≤ cntL ds
 | e :: ds, d, h => by
  unfold cntL
  rcases List.mem_cons.1 h with rfl | h
  ·omega
  ·have := cntL_mem h; omega
theorem cntL_len : ∀ (ds : List Nd), ds.length ≤ cntL ds
 | [] => Nat.zero_le _
 | d :: ds => by
  unfold cntL
  have := cntL_len ds
  have := cntT_pos d
  rw [List.length_cons]; omega
theorem cntL_app : ∀ (a b : List Nd), cntL (a ++ b) = cntL a + cntL b
 | [], b => by simp [cntL]
 | d :: a, b => by
  rw [List.cons_append, cntL, cntL, cntL_app a b]; omega
theorem cntL_take_succ {ds : List Nd} {k : Nat} (h : k < ds.length) : cntL (ds.take (k + 1)) = cntL (ds.take k) + cntT (ds[k]'h) := by
 rw [List.take_succ_eq_append_getElem h, cntL_app]
 rfl
theorem cntL_take_le (ds : List Nd) (k : Nat) : cntL (ds.take k) ≤ cntL ds := by
 have := cntL_app (ds.take k) (ds.drop k)
 rw [List.take_append_drop] at this
 omega
theorem depL_take_succ {ds : List Nd} {k : Nat} (h : k < ds.length) : depL (ds.take (k + 1)) = max (depL (ds.take k)) (depT (ds[k]'h)) := by
 induction ds generalizing k with
 | nil => cases h
 | cons d ds ih =>
  cases k with
  | zero => show max (depT d) 0 = max 0 (depT d); omega
  | succ k =>
   rw [List.take_succ_cons, List.take_succ_cons, depL, depL, ih (Nat.lt_of_succ_lt_succ h)]
   rw [List.getElem_cons_succ]; omega
theorem depT_cnt (n : Nat) : ∀ (d : Nd), cntT d ≤ n → depT d ≤ cntT d := by
 induction n with
 | zero => intro d h; have := cntT_pos d; omega
 | succ n ih =>
  intro d h
  cases d with
  | mk k t ks ds =>
   rw [cntT] at h
   rw [depT, cntT]
   have : ∀ (es : List Nd), cntL es ≤ n → depL es ≤ cntL es := by
    intro es
    induction es with
    | nil => intro _; exact Nat.le_refl _
    | cons e es ihe =>
     intro hes
     rw [cntL] at hes
     have h1 := ih e (by omega)
     have h2 := ihe (by omega)
     rw [depL, cntL]; omega
   have := this ds (by omega)
   omega
mutual
theorem leftT_cnt : ∀ (d : Nd) (deep left : Int), 0 ≤ leftT d deep left → leftT d deep left = left - (cntT d : Int)
 | .mk k t ks ds, deep, left, h => by
  rw [leftT] at h ⊢
  split at h
  ·exact absurd h (by decide)
  ·rename_i h1
   rw [if_neg h1]
   split at h
   ·exact absurd h (by decide)
   ·rename_i h2
    rw [if_neg h2]
    split at h
    ·exact absurd h (by decide)
    ·rename_i h3
     rw [if_neg h3, leftL_cnt ds (deep + 1) (left - 1) h, cntT]; omega
theorem leftL_cnt : ∀ (ds : List Nd) (deep left : Int), 0 ≤ leftL ds deep left → leftL ds deep left = left - (cntL ds : Int)
 | [], deep, left, h => by rw [leftL, cntL]; omega
 | d :: ds, deep, left, h => by
  rw [leftL] at h ⊢
  split at h
  ·exact absurd h (by decide)
  ·rename_i h1
   rw [if_neg h1]
   have e := leftT_cnt d deep left (by omega)
   rw [leftL_cnt ds deep _ h, e, cntL]; omega
end
theorem ok_cnt {most : Int} {d : Nd} (h : okT most d = true) : (cntT d : Int) ≤ most := by
 have h1 : 0 ≤ leftT d 1 most := of_decide_eq_true h
 have := leftT_cnt d 1 most h1
 omega
inductive Fine : Nd → Prop
 | mk {k : Int} {t : L8} {ks : List L8} {ds : List Nd} (h0 : 0 ≤ k) (h3 : k ≤ 3) (hf : formB k t ks ds.length = true) (hk : k = 3 → ks.length = ds.length ∧ (sortL ks).length = ks.length) (hd : ∀ d ∈ ds, Fine d) : Fine (.mk k t ks ds)
mutual
theorem leftT_fine : ∀ (d : Nd) (deep left : Int), 0 ≤ leftT d deep left → Fine d
 | .mk k t ks ds, deep, left, h => by
  rw [leftT] at h
  split at h
  ·exact absurd h (by decide)
  ·rename_i h1
   split at h
   ·exact absurd h (by decide)
   ·rename_i h2
    split at h
    ·exact absurd h (by decide)
    ·rename_i h3
     refine .mk (by omega) (by omega) (by simpa using h2) ?_ (leftL_fine ds (deep + 1) (left - 1) h)
     intro hk
     unfold keysB at h3
     rw [decide_eq_true hk] at h3
     simp only [Bool.true_and, Bool.not_eq_false', Bool.or_eq_true, decide_eq_true_eq, not_or] at h3
     simp at h3
     exact ⟨h3.1.1, h3.2⟩
theorem leftL_fine : ∀ (ds : List Nd) (deep left : Int), 0 ≤ leftL ds deep left → ∀ d ∈ ds, Fine d
 | [], _, _, _ => fun d hd => by cases hd
 | e :: ds, deep, left, h => by
  rw [leftL] at h
  split at h
  ·exact absurd h (by decide)
  ·rename_i h1
   intro d hd
   rcases List.mem_cons.1 hd with he | hd
   ·rw [he]; exact leftT_fine e deep left (by omega)
   ·exact leftL_fine ds deep _ h d hd
end
theorem ok_fine {most : Int} {d : Nd} (h : okT most d = true) : Fine d := leftT_fine d 1 most (of_decide_eq_true h)
end N8
end Go.Proofs.YtecglpocmhkkiaaGreatDoor
namespace Go.Proofs.YtecglpocmhkkiaaGreatDoor
namespace N8
open Nw
def Once (l : List L8) : Prop := ∀ (i j : Nat) (hi : i < l.length) (hj : j < l.length), i < j → l[i]'hi ≠ l[j]'hj
end N8
end Go.Proofs.YtecglpocmhkkiaaGreatDoor
namespace Go.Proofs.YtecglpocmhkkiaaGreatDoor
namespace F9
open Nw N8 Q6
def blk : L8 → Nat
 | [] => 0
 | c :: l => if c = 32 then blk l + 1 else 0
def stops (c : UInt8) (l : L8) : Bool := has marks c || (isC 58 c && (decide (l = []) || isC 32 (l.headD 0) || has marks (l.headD 0)))
def pln : L8 → Nat
 | [] => 0
 | c :: l => if stops c l then 0 else pln l + 1
def trm (l : L8) : L8 := Lib.trimRightB l 32
def scnP (l : L8) : Option (L8 × Nat) := scanR l 0
def isQ (c : UInt8) : Bool := decide (c = 34) || decide (c = 39)
def txt (t : L8) : Nd := .mk 1 t [] []
def sclP (l : L8) : Option Nd := if bad3 l then some nul else if rowB l then some (txt l) else none
def keyP (l : L8) : Option (L8 × Nat) :=
 if isQ (l.headD 0) then
  match scnP l with
  | none => none
  | some p => if (l.drop (p.2 + blk (l.drop p.2))).headD 0 = 58 then some (p.1, p.2 + blk (l.drop p.2) + 1) else none
 else if rowB (trm (l.take (pln l))) && decide ((l.drop (pln l)).headD 0 = 58) then some (trm (l.take (pln l)), pln l + 1) else none
def bump (k : Nat) (p : Nd × Nat) : Nd × Nat := (p.1, k + p.2)
theorem blk_le : ∀ l : L8, blk l ≤ l.length
 | [] => Nat.le_refl _
 | c :: l => by
  rw [blk, List.length_cons]
  have := blk_le l
  split
  ·omega
  ·exact Nat.zero_le _
theorem pln_le : ∀ l : L8, pln l ≤ l.length
 | [] => Nat.le_refl _
 | c :: l => by
  rw [pln, List.length_cons]
  have := pln_le l
  split
  ·exact Nat.zero_le _
  ·omega
theorem drop_lt {l : L8} {k : Nat} {c : UInt8} {t : L8} (h : l.drop k = c :: t) : t.length < l.length := by
 have h1 : (l.drop k).length = t.length + 1 := by rw [h]; rfl
 rw [List.length_drop] at h1
 omega
mutual
def valP (l : L8) : Option (Nd × Nat) :=
 match l with
 | [] => some (nul, 0)
 | c :: t =>
  if c = 91 then (if (t.drop (blk t)).headD 0 = 93 then some (.mk 2 [] [] [], blk t + 2) else (rowP t []).map (bump 1))
  else if c = 123 then (if (t.drop (blk t)).headD 0 = 125 then some (.mk 3 [] [] [], blk t + 2) else (prsP t [] []).map (bump 1))
  else if isQ c then (scnP (c :: t)).map fun p => (txt p.1, p.2)
  else (sclP (trm ((c :: t).take (pln (c :: t))))).map fun d => (d, pln (c :: t))
 termination_by 2 * l.length
 decreasing_by all_goals simp_wf; all_goals omega
def rowP (l : L8) (ds : List Nd) : Option (Nd × Nat) :=
 match valP (l.drop (blk l)) with
 | none => none
 | some (v, m) =>
  if m = 0 then none
  else
   match h : l.drop (blk l + m + blk (l.drop (blk l + m))) with
   | [] => none
   | c :: t =>
    if c = 93 then some (.mk 2 [] [] (ds ++ [v]), blk l + m + blk (l.drop (blk l + m)) + 1)
    else if c = 44 then (rowP t (ds ++ [v])).map (bump (blk l + m + blk (l.drop (blk l + m)) + 1))
    else none
 termination_by 2 * l.length + 1
 decreasing_by
  ·simp only [List.length_drop]; omega
  ·have := drop_lt h; omega
def prsP (l : L8) (ks : List L8) (ds : List Nd) : Option (Nd × Nat) :=
 match hk : keyP (l.drop (blk l)) with
 | none => none
 | some (x, j) =>
  if x ∈ ks then none
  else
   match valP (l.drop (blk l + j + blk (l.drop (blk l + j)))) with
   | none => none
   | some (v, m) =>
    match h : l.drop (blk l + j + blk (l.drop (blk l + j)) + m + blk (l.drop (blk l + j + blk (l.drop (blk l + j)) + m))) with
    | [] => none
    | c :: t =>
     if c = 125 then some (.mk 3 [] (ks ++ [x]) (ds ++ [v]), blk l + j + blk (l.drop (blk l + j)) + m + blk (l.drop (blk l + j + blk (l.drop (blk l + j)) + m)) + 1)
     else if c = 44 then (prsP t (ks ++ [x]) (ds ++ [v])).map (bump (blk l + j + blk (l.drop (blk l + j)) + m + blk (l.drop (blk l + j + blk (l.drop (blk l + j)) + m)) + 1))
     else none
 termination_by 2 * l.length + 1
 decreasing_by
  ·simp only [List.length_drop]; omega
  ·have := drop_lt h; omega
end
def parP (l : L8) : Option Nd :=
 match valP (l.drop (blk l)) with
 | none => none
 | some (v, m) => if (l.drop (blk l + m)).length = blk (l.drop (blk l + m)) then some v else none
def wtx (t : L8) : L8 := if rowB t then t else dblL t
mutual
def wrT : Nd → L8
 | .mk k t ks ds => if k = 0 then [110, 117, 108, 108] else if k = 1 then wtx t else if k = 3 then 123 :: wrM ks ds ++ [125] else 91 :: wrS ds ++ [93]
def wrS : List Nd → L8
 | [] => []
 | d :: ds => wrT d ++ wrSt ds
def wrSt : List Nd → L8
 | [] => []
 | d :: ds => 44 :: 32 :: wrT d ++ wrSt ds
def wrM : List L8 → List Nd → L8
 | k :: ks, d :: ds => wtx k ++ 58 :: 32 :: wrT d ++ wrMt ks ds
 | _, _ => []
def wrMt : List L8 → List Nd → L8
 | k :: ks, d :: ds => 44 :: 32 :: wtx k ++ 58 :: 32 :: wrT d ++ wrMt ks ds
 | _, _ => []
end
end F9
end Go.Proofs.YtecglpocmhkkiaaGreatDoor
namespace Go.Proofs.YtecglpocmhkkiaaGreatDoor
section
open Go.RowKit Go.Sort Go.Lib
open Nw
def ba (x : L8) : ByteArray := ⟨x.toArray⟩
theorem ba_data (x : L8) : (ba x).data.toList = x := by simp [ba]
theorem ba_of (s : ByteArray) : ba s.data.toList = s := by cases s; simp [ba]
def Rd (w : World) (v : Value) (l : List L8) : Prop :=
 ∃ (a : Option Addr) (cap : Nat), v = .slice a l.length cap ∧ l.length ≤ cap ∧ cap ≤ maxLen ∧
  ((l = [] ∧ (a = none → cap = 0)) ∨ ∃ b o, a = some ⟨b, o, none⟩ ∧ b < w.heap.size ∧ ∀ j (h : j < l.length), w.cell? ⟨b, o + j, none⟩ = some (.string (ba l[j])))
theorem Rd.below {w w' : World} {v : Value} {l : List L8} (h : Rd w v l) (hb : Below w.heap.size w w') : Rd w' v l := by
 obtain ⟨a, cap, rfl, h1, h2, h3⟩ := h
 refine ⟨a, cap, rfl, h1, h2, ?_⟩
 rcases h3 with h3 | ⟨b, o, rfl, h4, h5⟩
 ·exact .inl h3
 ·exact .inr ⟨b, o, rfl, Nat.lt_of_lt_of_le h4 hb.size, fun j hj => (hb.cell (p := ⟨b, o + j, none⟩) h4).trans (h5 j hj)⟩
theorem Rd.cases {w : World} {v : Value} {l : List L8} (h : Rd w v l) :
  (∃ a cap, v = .slice a 0 cap ∧ l = [] ∧ cap ≤ maxLen ∧ (a = none → cap = 0)) ∨ (∃ b o cap, v = .slice (some ⟨b, o, none⟩) l.length cap ∧ l.length ≤ cap ∧ cap ≤ maxLen ∧ b < w.heap.size ∧ ∀ j (h : j < l.length), w.cell? ⟨b, o + j, none⟩ = some (.string (ba l[j]))) := by
 obtain ⟨a, cap, rfl, h1, h2, h3⟩ := h
 rcases h3 with ⟨rfl, hn⟩ | ⟨b, o, rfl, h4, h5⟩
 ·exact .inl ⟨a, cap, rfl, rfl, h2, hn⟩
 ·exact .inr ⟨b, o, cap, rfl, h1, h2, h4, h5⟩
theorem rd_empty (w : World) (a : Option Addr) (cap : Nat) (h : cap ≤ maxLen) (hn : a = none → cap = 0) : Rd w (.slice a 0 cap) [] := ⟨a, cap, rfl, Nat.zero_le _, h, .inl ⟨rfl, hn⟩⟩
theorem rd_of_owns {w : World} {base n : Nat} {e : TypeId} {v : Value} {l : List L8} (h : w.ownsRow base e 1 v n (l.map encStr)) : Rd w v l := by
 have hl : l.length = n := by simpa using h.1
 by_cases hv : v = .slice none 0 0
 ·subst hv
  rcases h.2 with ⟨_, h0⟩ | ⟨g, cap, cur, h0, _⟩
  ·obtain rfl : l = [] := List.length_eq_zero_iff.1 (by omega)
   exact rd_empty w none 0 (Nat.zero_le _) fun _ => rfl
  ·cases h0
 ·obtain ⟨g, cap, rfl, _, hg, h1, h2, _, hH⟩ := holds_of_ownsRow h hv
  subst hl
  refine ⟨_, cap, rfl, h1, h2, .inr ⟨g, 0, rfl, hg, fun j hj => ?_⟩⟩
  have := (hH j (by simpa using hj)).1
  rw [getElem!_pos l.toArray j (by simpa using hj)] at this
  have h2 : w.cell? ⟨g, 0 + j, none⟩ = some (encStr l[j]) := by simpa using this
  exact h2
theorem map_ba (l : List L8) (j : Nat) (h : j < (l.map ba).length) : (l.map ba).getD j ByteArray.empty = ba (l[j]'(by simpa using h)) := by
 rw [List.getD_eq_getElem?_getD, List.getElem?_eq_getElem h]; simp
theorem below_drewN (w : World) (q : Nat) : Below w.heap.size w (w.drewN q) := ⟨rfl, rfl, rfl, Nat.le_refl _, fun _ _ => rfl⟩
end
section
open Go.RowKit Go.Sort
open Nw N8 Go.ChangeShapes Go.WideShapes
def RdS (S : Nat → Prop) (w : World) (v : Value) (l : List L8) : Prop :=
 ∃ (a : Option Addr) (cap : Nat), v = .slice a l.length cap ∧ l.length ≤ cap ∧ cap ≤ maxLen ∧
  ((l = [] ∧ (a = none → cap = 0)) ∨ ∃ b o, a = some ⟨b, o, none⟩ ∧ S b ∧ ∀ j (h : j < l.length), w.cell? ⟨b, o + j, none⟩ = some (.string (ba l[j])))
theorem RdS.keep {S T : Nat → Prop} {w w' : World} {v : Value} {l : List L8} (h : RdS S w v l) (hk : ∀ b, S b → T b ∧ w'.heap[b]? = w.heap[b]?) : RdS T w' v l := by
 obtain ⟨a, cap, rfl, h1, h2, h3⟩ := h
 refine ⟨a, cap, rfl, h1, h2, ?_⟩
 rcases h3 with h3 | ⟨b, o, rfl, h4, h5⟩
 ·exact .inl h3
 ·exact .inr ⟨b, o, rfl, (hk b h4).1, fun j hj => (World.cell?_of_block (hk b h4).2).trans (h5 j hj)⟩
mutual
def NdC (S : Nat → Prop) (w : World) : Nd → Value → Value → Value → Value → Prop
 | .mk k t ks ds, c0, c1, c2, c3 => c0 = .int .i64 k ∧ c1 = .string (ba t) ∧ RdS S w c2 ks ∧
   ∃ (A : Option Addr) (cap : Nat), c3 = .slice A ds.length cap ∧ ds.length ≤ cap ∧ cap ≤ maxLen ∧ (A = none → cap = 0) ∧ NdK S w ds A 0
def NdK (S : Nat → Prop) (w : World) : List Nd → Option Addr → Nat → Prop
 | [], _, _ => True
 | d :: ds, A, i => (∃ (b o : Nat) (c0 c1 c2 c3 : Value), A = some ⟨b, o, none⟩ ∧ S b ∧ w.cell? ⟨b, o + i * 4, none⟩ = some c0 ∧ w.cell? ⟨b, o + i * 4 + 1, none⟩ = some c1 ∧
   w.cell? ⟨b, o + i * 4 + 2, none⟩ = some c2 ∧ w.cell? ⟨b, o + i * 4 + 3, none⟩ = some c3 ∧ NdC S w d c0 c1 c2 c3) ∧ NdK S w ds A (i + 1)
end
mutual
theorem NdC.keep {S T : Nat → Prop} {w w' : World} (hk : ∀ b, S b → T b ∧ w'.heap[b]? = w.heap[b]?) : ∀ (d : Nd) {c0 c1 c2 c3 : Value}, NdC S w d c0 c1 c2 c3 → NdC T w' d c0 c1 c2 c3
 | .mk k t ks ds, c0, c1, c2, c3, h => by
  rw [NdC] at h ⊢
  obtain ⟨h0, h1, h2, A, cap, h3, h4, h5, h6, h7⟩ := h
  exact ⟨h0, h1, h2.keep hk, A, cap, h3, h4, h5, h6, NdK.keep hk ds h7⟩
theorem NdK.keep {S T : Nat → Prop} {w w' : World} (hk : ∀ b, S b → T b ∧ w'.heap[b]? = w.heap[b]?) : ∀ (ds : List Nd) {A : Option Addr} {i : Nat}, NdK S w ds A i → NdK T w' ds A i
 | [], A, i, _ => by rw [NdK]; trivial
 | d :: ds, A, i, h => by
  rw [NdK] at h ⊢
  obtain ⟨⟨b, o, c0, c1, c2, c3, hA, hS, e0, e1, e2, e3, hd⟩, hds⟩ := h
  exact ⟨⟨b, o, c0, c1, c2, c3, hA, (hk b hS).1, (World.cell?_of_block (hk b hS).2).trans e0, (World.cell?_of_block (hk b hS).2).trans e1, (World.cell?_of_block (hk b hS).2).trans e2, (World.cell?_of_block (hk b hS).2).trans e3, NdC.keep hk d hd⟩, NdK.keep hk ds hds⟩
end
theorem NdK.at_ {S : Nat → Prop} {w : World} : ∀ {ds : List Nd} {A : Option Addr} {i : Nat}, NdK S w ds A i → ∀ (j : Nat) (h : j < ds.length),
  ∃ (b o : Nat) (c0 c1 c2 c3 : Value), A = some ⟨b, o, none⟩ ∧ S b ∧ w.cell? ⟨b, o + (i + j) * 4, none⟩ = some c0 ∧ w.cell? ⟨b, o + (i + j) * 4 + 1, none⟩ = some c1 ∧
   w.cell? ⟨b, o + (i + j) * 4 + 2, none⟩ = some c2 ∧ w.cell? ⟨b, o + (i + j) * 4 + 3, none⟩ = some c3 ∧ NdC S w (ds[j]'h) c0 c1 c2 c3
 | d :: ds, A, i, h, 0, _ => by rw [NdK] at h; exact h.1
 | d :: ds, A, i, h, j + 1, hj => by
  rw [NdK] at h
  have := NdK.at_ h.2 j (Nat.lt_of_succ_lt_succ hj)
  rw [show i + (j + 1) = i + 1 + j by omega]
  exact this
theorem ndK_of {S : Nat → Prop} {w : World} {A : Option Addr} : ∀ (ds : List Nd) (i : Nat), (∀ (j : Nat) (h : j < ds.length),
  ∃ (b o : Nat) (c0 c1 c2 c3 : Value), A = some ⟨b, o, none⟩ ∧ S b ∧ w.cell? ⟨b, o + (i + j) * 4, none⟩ = some c0 ∧ w.cell? ⟨b, o + (i + j) * 4 + 1, none⟩ = some c1 ∧
   w.cell? ⟨b, o + (i + j) * 4 + 2, none⟩ = some c2 ∧ w.cell? ⟨b, o + (i + j) * 4 + 3, none⟩ = some c3 ∧ NdC S w (ds[j]'h) c0 c1 c2 c3) → NdK S w ds A i
 | [], i, _ => by rw [NdK]; trivial
 | d :: ds, i, h => by
  rw [NdK]
  refine ⟨h 0 (Nat.succ_pos _), ndK_of ds (i + 1) fun j hj => ?_⟩
  have := h (j + 1) (Nat.succ_lt_succ hj)
  rw [show i + 1 + j = i + (j + 1) by omega]
  exact this
def NdW (w : World) (d : Nd) (c0 c1 c2 c3 : Value) : Prop := NdC (· < w.heap.size) w d c0 c1 c2 c3
theorem NdW.below {w w' : World} {d : Nd} {c0 c1 c2 c3 : Value} (h : NdW w d c0 c1 c2 c3) (hb : Below w.heap.size w w') : NdW w' d c0 c1 c2 c3 :=
 NdC.keep (fun b hlt => ⟨Nat.lt_of_lt_of_le hlt hb.size, hb.block b hlt⟩) d h
theorem NdW.parts {w : World} {k : Int} {t : L8} {ks : List L8} {ds : List Nd} {c0 c1 c2 c3 : Value} (h : NdW w (.mk k t ks ds) c0 c1 c2 c3) :
  c0 = .int .i64 k ∧ c1 = .string (ba t) ∧ Rd w c2 ks ∧ ∃ (A : Option Addr) (cap : Nat), c3 = .slice A ds.length cap ∧ ds.length ≤ cap ∧ cap ≤ maxLen ∧ (A = none → cap = 0) ∧
   ∀ (j : Nat) (h : j < ds.length), ∃ (b o : Nat) (e0 e1 e2 e3 : Value), A = some ⟨b, o, none⟩ ∧ b < w.heap.size ∧ w.cell? ⟨b, o + j * 4, none⟩ = some e0 ∧ w.cell? ⟨b, o + j * 4 + 1, none⟩ = some e1 ∧
    w.cell? ⟨b, o + j * 4 + 2, none⟩ = some e2 ∧ w.cell? ⟨b, o + j * 4 + 3, none⟩ = some e3 ∧ NdW w (ds[j]'h) e0 e1 e2 e3 := by
 unfold NdW at h
 rw [NdC] at h
 obtain ⟨h0, h1, h2, A, cap, h3, h4, h5, h6, h7⟩ := h
 refine ⟨h0, h1, h2, A, cap, h3, h4, h5, h6, fun j hj => ?_⟩
 have := NdK.at_ h7 j hj
 rw [Nat.zero_add] at this
 exact this
theorem cell_lt {W : World} {p : Addr} {v : Value} (h : W.cell? p = some v) : p.block < W.heap.size := by
 rcases Nat.lt_or_ge p.block W.heap.size with h1 | h1
 ·exact h1
 ·have : W.heap[p.block]? = none := Array.getElem?_eq_none h1
  simp [World.cell?, this] at h
section
variable {H : Type} {enc : TypeId × Value → H} {W : World} {base : Nat} {spare : Nat → Bool} {held : Bool}
end
end
end Go.Proofs.YtecglpocmhkkiaaGreatDoor
