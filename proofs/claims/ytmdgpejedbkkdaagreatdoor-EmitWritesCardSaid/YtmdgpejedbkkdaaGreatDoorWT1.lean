/- NamListMath, NamRd, NamRsortMath, NamRsort -/
import Derived.Below
import Derived.BigQuiet
import Derived.ChangeAlike
import Derived.Deep.LoopGhost
import Derived.Deep.QuietTactic
import Derived.Laws.Cover1
import Derived.Laws.OwnMore
import Derived.Lib.Hide
import Derived.Lib.OwnBridge
import Derived.Lib.SlicesCompact
import Derived.ProofKit
import Derived.RegionTactic
import Derived.Shelf.Small.Strs
import Derived.Shelf.Spec.SearchS
import Derived.Sort.OwnSorted
import Derived.Sort.Walk0
import Derived.Test.YtmdgpejedbkkdaaGreatDoorRows
import Derived.WalkKit
set_option linter.unusedVariables false
set_option linter.unusedSimpArgs false
set_option maxRecDepth 100000
set_option maxHeartbeats 16000000
open Go.Lib (hid)
namespace Go.Proofs.YtmdgpejedbkkdaaGreatDoor
namespace Nw
abbrev L8 := List UInt8
def Asc (l : List L8) : Prop := l.Pairwise (· < ·)
def sortL (l : List L8) : List L8 := Lib.compact (l.mergeSort fun x y => decide (x ≤ y))
theorem lt_irr (x : L8) : ¬ x < x := List.lt_irrefl x
theorem lt_tr {x y z : L8} (h : x < y) (k : y < z) : x < z := List.lt_trans h k
theorem le_of_nlt {x y : L8} (h : ¬ x < y) : y ≤ x := List.not_lt.1 h
theorem lt_of_le_ne {x y : L8} (h : x ≤ y) (k : x ≠ y) : x < y := by
 rcases Classical.em (x < y) with h1 | h1
 ·exact h1
 ·exact absurd (List.le_antisymm h (le_of_nlt h1)) k
theorem le_of_lt {x y : L8} (h : x < y) : x ≤ y := List.le_of_lt h
theorem asc_unique : ∀ {a b : List L8}, Asc a → Asc b → (∀ x, x ∈ a ↔ x ∈ b) → a = b
 | [], [], _, _, _ => rfl
 | [], y :: b, _, _, h => absurd ((h y).2 List.mem_cons_self) List.not_mem_nil
 | x :: a, [], _, _, h => absurd ((h x).1 List.mem_cons_self) List.not_mem_nil
 | x :: a, y :: b, ha, hb, h => by
  have ha' := List.pairwise_cons.1 ha
  have hb' := List.pairwise_cons.1 hb
  have e : x = y := by
   rcases List.mem_cons.1 ((h x).1 List.mem_cons_self) with e | e
   ·exact e
   ·rcases List.mem_cons.1 ((h y).2 List.mem_cons_self) with e2 | e2
    ·exact e2.symm
    ·exact absurd (lt_tr (hb'.1 x e) (ha'.1 y e2)) (lt_irr _)
  subst e
  rw [asc_unique ha'.2 hb'.2 fun z => ⟨fun hz => ?_, fun hz => ?_⟩]
  ·rcases List.mem_cons.1 ((h z).1 (List.mem_cons_of_mem _ hz)) with e | e
   ·subst e; exact absurd (ha'.1 _ hz) (lt_irr _)
   ·exact e
  ·rcases List.mem_cons.1 ((h z).2 (List.mem_cons_of_mem _ hz)) with e | e
   ·subst e; exact absurd (hb'.1 _ hz) (lt_irr _)
   ·exact e
theorem compactUpTo_facts (d : Array L8) (hd : ∀ i j, i < j → j < d.size → d[i]! ≤ d[j]!) : ∀ m, m ≤ d.size → Asc (Lib.compactUpTo d m) ∧ ∀ x, x ∈ Lib.compactUpTo d m ↔ ∃ j, j < m ∧ d[j]! = x
 | 0, _ => by
  refine ⟨by simp [Lib.compactUpTo, Asc], fun x => ?_⟩
  simp [Lib.compactUpTo]
 | m + 1, hm => by
  obtain ⟨ih1, ih2⟩ := compactUpTo_facts d hd m (by omega)
  rw [Lib.compactUpTo_succ]
  by_cases hk : Lib.keeps d m = true
  ·rw [if_pos hk]
   constructor
   ·unfold Asc at ih1 ⊢
    rw [List.pairwise_append]
    refine ⟨ih1, by simp, fun x hx y hy => ?_⟩
    obtain ⟨j, hj, rfl⟩ := (ih2 x).1 hx
    obtain rfl : y = d[m]! := by simpa using hy
    have hkk : m = 0 ∨ d[m]! ≠ d[m - 1]! := by unfold Lib.keeps at hk; exact of_decide_eq_true hk
    rcases hkk with h0 | h0
    ·omega
    ·have h1 : d[j]! ≤ d[m - 1]! := by
      rcases Nat.lt_or_ge j (m - 1) with h2 | h2
      ·exact hd j (m - 1) h2 (by omega)
      ·obtain rfl : j = m - 1 := by omega
       exact List.le_refl _
     have h2 : d[m - 1]! < d[m]! := lt_of_le_ne (hd (m - 1) m (by omega) (by omega)) (fun e => h0 e.symm)
     exact List.lt_of_le_of_lt h1 h2
   ·intro x
    rw [List.mem_append, ih2 x]
    constructor
    ·rintro (⟨j, hj, rfl⟩ | h)
     ·exact ⟨j, by omega, rfl⟩
     ·obtain rfl : x = d[m]! := by simpa using h
      exact ⟨m, by omega, rfl⟩
    ·rintro ⟨j, hj, rfl⟩
     rcases Nat.lt_or_ge j m with h | h
     ·exact .inl ⟨j, h, rfl⟩
     ·obtain rfl : j = m := by omega
      exact .inr (by simp)
  ·rw [if_neg hk, List.append_nil]
   have hkk : ¬ (m = 0 ∨ d[m]! ≠ d[m - 1]!) := by unfold Lib.keeps at hk; exact fun h => hk (decide_eq_true h)
   have h0 : m ≠ 0 := fun e => hkk (.inl e)
   have h1 : d[m]! = d[m - 1]! := Classical.byContradiction fun e => hkk (.inr e)
   refine ⟨ih1, fun x => ?_⟩
   rw [ih2 x]
   constructor
   ·rintro ⟨j, hj, rfl⟩; exact ⟨j, by omega, rfl⟩
   ·rintro ⟨j, hj, rfl⟩
    rcases Nat.lt_or_ge j m with h | h
    ·exact ⟨j, h, rfl⟩
    ·obtain rfl : j = m := by omega
     exact ⟨j - 1, by omega, h1.symm⟩
theorem ms_sorted (l : List L8) : (l.mergeSort fun x y => decide (x ≤ y)).Pairwise (· ≤ ·) := by
 have := List.pairwise_mergeSort (le := fun (x y : L8) => decide (x ≤ y)) (fun a b c h k => decide_eq_true (List.le_trans (of_decide_eq_true h) (of_decide_eq_true k))) (fun a b => by
  rcases List.le_total a b with h | h
  ·simp [h]
  ·simp [h]) l
 exact this.imp fun h => of_decide_eq_true h
theorem sortL_facts (l : List L8) : Asc (sortL l) ∧ ∀ x, x ∈ sortL l ↔ x ∈ l := by
 have hs := ms_sorted l
 generalize hm : (l.mergeSort fun x y => decide (x ≤ y)) = m at hs
 have hp : m.Perm l := hm ▸ List.mergeSort_perm l _
 have hd : ∀ i j, i < j → j < m.toArray.size → m.toArray[i]! ≤ m.toArray[j]! := fun i j hij hj => by
  have hj' : j < m.length := by simpa using hj
  have := List.pairwise_iff_getElem.1 hs i j (by omega) hj' hij
  rw [getElem!_pos m.toArray i (by simp; omega), getElem!_pos m.toArray j (by simpa using hj')]
  simpa using this
 obtain ⟨h1, h2⟩ := compactUpTo_facts m.toArray hd m.length (by simp)
 have e : sortL l = Lib.compactUpTo m.toArray m.length := by unfold sortL; rw [hm]; rfl
 rw [e]
 refine ⟨h1, fun x => ?_⟩
 rw [h2 x, ← hp.mem_iff]
 constructor
 ·rintro ⟨j, hj, rfl⟩
  rw [getElem!_pos m.toArray j (by simpa using hj)]; simp
 ·intro hx
  obtain ⟨j, hj, rfl⟩ := List.mem_iff_getElem.1 hx
  exact ⟨j, hj, by rw [getElem!_pos m.toArray j (by simpa using hj)]; simp⟩
theorem sortL_asc (l : List L8) : Asc (sortL l) := (sortL_facts l).1
theorem mem_sortL {l : List L8} {x : L8} : x ∈ sortL l ↔ x ∈ l := (sortL_facts l).2 x
theorem sortL_eq {l S : List L8} (h : Asc S) (hm : ∀ x, x ∈ S ↔ x ∈ l) : sortL l = S := asc_unique (sortL_asc l) h fun x => by rw [mem_sortL, hm]
theorem sortL_nil : sortL [] = [] := asc_unique (sortL_asc []) List.Pairwise.nil fun x => by rw [mem_sortL]
theorem asc_filter {l : List L8} (p : L8 → Bool) (h : Asc l) : Asc (l.filter p) := List.Pairwise.filter p h
theorem asc_get {S : List L8} (h : Asc S) {i j : Nat} (hij : i < j) (hj : j < S.length) : S[i] < S[j] := List.pairwise_iff_getElem.1 h i j (by omega) hj hij
theorem asc_le {S : List L8} (h : Asc S) {i j : Nat} (hij : i ≤ j) (hj : j < S.length) : S[i] ≤ S[j] := by
 rcases Nat.lt_or_eq_of_le hij with h1 | rfl
 ·exact le_of_lt (asc_get h h1 hj)
 ·exact List.le_refl _
theorem sortL_length_le (l : List L8) : (sortL l).length ≤ l.length := by
 have : (Lib.compact (l.mergeSort fun x y => decide (x ≤ y))).length ≤ (l.mergeSort fun x y => decide (x ≤ y)).length := by
  unfold Lib.compact Lib.compactUpTo
  rw [List.length_map]
  exact Nat.le_trans (List.length_filter_le _ _) (by simp)
 rwa [List.length_mergeSort] at this
theorem count_eq (a b : List L8) : (sortL (a ++ b)).length = ((sortL a).filter fun x => !decide (x ∈ b)).length + (sortL b).length := by
 have e1 : (sortL a).filter (fun x => !decide (x ∈ b)) = (sortL (a ++ b)).filter (fun x => !decide (x ∈ b)) := by
  refine asc_unique (asc_filter _ (sortL_asc _)) (asc_filter _ (sortL_asc _)) fun x => ?_
  rw [List.mem_filter, List.mem_filter, mem_sortL, mem_sortL]
  simp only [List.mem_append, Bool.not_eq_true', decide_eq_false_iff_not]
  constructor
  ·rintro ⟨h, k⟩; exact ⟨.inl h, k⟩
  ·rintro ⟨h | h, k⟩
   ·exact ⟨h, k⟩
   ·exact absurd h k
 have e2 : sortL b = (sortL (a ++ b)).filter (fun x => decide (x ∈ b)) := by
  refine asc_unique (sortL_asc _) (asc_filter _ (sortL_asc _)) fun x => ?_
  rw [List.mem_filter, mem_sortL, mem_sortL]
  simp only [List.mem_append, decide_eq_true_eq]
  constructor
  ·intro h; exact ⟨.inr h, h⟩
  ·rintro ⟨_, h⟩; exact h
 rw [e1]
 conv => rhs; rw [e2]
 have : ∀ S : List L8, S.length = (S.filter fun x => !decide (x ∈ b)).length + (S.filter fun x => decide (x ∈ b)).length := by
  intro S
  induction S with
  | nil => rfl
  | cons x S ih => by_cases h : x ∈ b <;> simp [h] at ih ⊢ <;> omega
 exact this _
def cand (l : List L8) (k : Nat) (y : L8) : Prop := k = 0 ∨ (sortL l).getD (k - 1) [] < y
theorem cand_mem {l : List L8} {k : Nat} (hk : k ≤ (sortL l).length) {y : L8} (hy : y ∈ l) (hc : cand l k y) : ∃ m, ∃ h : m < (sortL l).length, k ≤ m ∧ (sortL l)[m] = y := by
 obtain ⟨m, hm, rfl⟩ := List.mem_iff_getElem.1 (mem_sortL.2 hy)
 refine ⟨m, hm, ?_, rfl⟩
 rcases hc with h0 | h0
 ·omega
 ·refine Nat.le_of_not_lt fun hl => ?_
  rw [List.getD_eq_getElem?_getD, List.getElem?_eq_getElem (by omega)] at h0
  have h1 := asc_le (sortL_asc l) (show m ≤ k - 1 by omega) (by omega)
  exact lt_irr _ (List.lt_of_le_of_lt h1 h0)
theorem cand_next {l : List L8} {k : Nat} (hk : k < (sortL l).length) : (sortL l)[k] ∈ l ∧ cand l k (sortL l)[k] := by
 refine ⟨mem_sortL.1 (List.getElem_mem _), ?_⟩
 rcases Nat.eq_zero_or_pos k with h | h
 ·exact .inl h
 ·refine .inr ?_
  rw [List.getD_eq_getElem?_getD, List.getElem?_eq_getElem (by omega)]
  exact asc_get (sortL_asc l) (by omega) hk
theorem none_left {l : List L8} {k : Nat} (hk : k ≤ (sortL l).length) (h : ∀ y ∈ l, ¬ cand l k y) : k = (sortL l).length := by
 refine Nat.le_antisymm hk (Nat.le_of_not_lt fun hl => ?_)
 obtain ⟨h1, h2⟩ := cand_next hl
 exact h _ h1 h2
theorem next_is {l : List L8} {k : Nat} (hk : k ≤ (sortL l).length) {y : L8} (hy : y ∈ l) (hc : cand l k y) (hmin : ∀ z ∈ l, cand l k z → y ≤ z) : ∃ h : k < (sortL l).length, (sortL l)[k] = y := by
 obtain ⟨m, hm, hkm, rfl⟩ := cand_mem hk hy hc
 have hk' : k < (sortL l).length := by omega
 refine ⟨hk', ?_⟩
 obtain ⟨h1, h2⟩ := cand_next hk'
 exact List.le_antisymm (asc_le (sortL_asc l) hkm hm) (hmin _ h1 h2)
end Nw
end Go.Proofs.YtmdgpejedbkkdaaGreatDoor
namespace Go.Proofs.YtmdgpejedbkkdaaGreatDoor
section
open Go.RowKit Go.Sort Go.Lib
open Nw
def ba (x : L8) : ByteArray := ⟨x.toArray⟩
theorem ba_data (x : L8) : (ba x).data.toList = x := by simp [ba]
theorem ba_list (x : L8) : (ba x).toList = x := by rw [ByteArray.toList_eq, ba_data]
theorem ba_of (s : ByteArray) : ba s.data.toList = s := by cases s; simp [ba]
def Rd (w : World) (v : Value) (l : List L8) : Prop :=
 ∃ (a : Option Addr) (cap : Nat), v = .slice a l.length cap ∧ l.length ≤ cap ∧ cap ≤ maxLen ∧
  ((l = [] ∧ (a = none → cap = 0)) ∨ ∃ b o, a = some ⟨b, o, none⟩ ∧ b < w.heap.size ∧ ∀ j (h : j < l.length), w.cell? ⟨b, o + j, none⟩ = some (.string (ba l[j])))
theorem Rd.below {w w' : World} {v : Value} {l : List L8} (h : Rd w v l) (hb : Below w.heap.size w w') : Rd w' v l := by
 obtain ⟨a, cap, rfl, h1, h2, h3⟩ := h
 refine ⟨a, cap, rfl, h1, h2, ?_⟩
 rcases h3 with h3 | ⟨b, o, rfl, h4, h5⟩
 ·exact .inl h3
 ·exact .inr ⟨b, o, rfl, Nat.lt_of_lt_of_le h4 hb.size, fun j hj => (hb.cell (p := ⟨b, o + j, none⟩) h4).trans (h5 j hj)⟩
theorem Rd.cases {w : World} {v : Value} {l : List L8} (h : Rd w v l) :
  (∃ a cap, v = .slice a 0 cap ∧ l = [] ∧ cap ≤ maxLen ∧ (a = none → cap = 0)) ∨ (∃ b o cap, v = .slice (some ⟨b, o, none⟩) l.length cap ∧ l.length ≤ cap ∧ cap ≤ maxLen ∧ b < w.heap.size ∧ ∀ j (h : j < l.length), w.cell? ⟨b, o + j, none⟩ = some (.string (ba l[j]))) := by
 obtain ⟨a, cap, rfl, h1, h2, h3⟩ := h
 rcases h3 with ⟨rfl, hn⟩ | ⟨b, o, rfl, h4, h5⟩
 ·exact .inl ⟨a, cap, rfl, rfl, h2, hn⟩
 ·exact .inr ⟨b, o, cap, rfl, h1, h2, h4, h5⟩
theorem rd_empty (w : World) (a : Option Addr) (cap : Nat) (h : cap ≤ maxLen) (hn : a = none → cap = 0) : Rd w (.slice a 0 cap) [] := ⟨a, cap, rfl, Nat.zero_le _, h, .inl ⟨rfl, hn⟩⟩
theorem rd_of_owns {w : World} {base n : Nat} {e : TypeId} {v : Value} {l : List L8} (h : w.ownsRow base e 1 v n (l.map encStr)) : Rd w v l := by
 have hl : l.length = n := by simpa using h.1
 by_cases hv : v = .slice none 0 0
 ·subst hv
  rcases h.2 with ⟨_, h0⟩ | ⟨g, cap, cur, h0, _⟩
  ·obtain rfl : l = [] := List.length_eq_zero_iff.1 (by omega)
   exact rd_empty w none 0 (Nat.zero_le _) fun _ => rfl
  ·cases h0
 ·obtain ⟨g, cap, rfl, _, hg, h1, h2, _, hH⟩ := holds_of_ownsRow h hv
  subst hl
  refine ⟨_, cap, rfl, h1, h2, .inr ⟨g, 0, rfl, hg, fun j hj => ?_⟩⟩
  have := (hH j (by simpa using hj)).1
  rw [getElem!_pos l.toArray j (by simpa using hj)] at this
  have h2 : w.cell? ⟨g, 0 + j, none⟩ = some (encStr l[j]) := by simpa using this
  exact h2
theorem map_ba (l : List L8) (j : Nat) (h : j < (l.map ba).length) : (l.map ba).getD j ByteArray.empty = ba (l[j]'(by simpa using h)) := by
 rw [List.getD_eq_getElem?_getD, List.getElem?_eq_getElem h]; simp
theorem below_drewN (w : World) (q : Nat) : Below w.heap.size w (w.drewN q) := ⟨rfl, rfl, rfl, Nat.le_refl _, fun _ _ => rfl⟩
end
section
open Go.RowKit Go.Sort
open Nw Go.ChangeShapes Go.WideShapes
def BestIs (l : List L8) (k i : Nat) (bz : Int) : Prop :=
 (bz = -1 ∧ ∀ j (hj : j < l.length), j < i → ¬ cand l k l[j]) ∨
 (∃ b, ∃ hb : b < l.length, bz = b ∧ b < i ∧ cand l k l[b] ∧ ∀ j (hj : j < l.length), j < i → cand l k l[j] → l[b] ≤ l[j])
theorem BestIs.start (l : List L8) (k : Nat) : BestIs l k 0 (-1) := .inl ⟨rfl, fun j _ h => absurd h (Nat.not_lt_zero _)⟩
theorem BestIs.skip {l : List L8} {k i : Nat} {bz : Int} (h : BestIs l k i bz) (hi : i < l.length) (hn : ¬ cand l k l[i]) : BestIs l k (i + 1) bz := by
 rcases h with ⟨e, h⟩ | ⟨b, hb, e, hbi, hc, hmin⟩
 ·refine .inl ⟨e, fun j hj hji => ?_⟩
  rcases Nat.lt_succ_iff_lt_or_eq.1 hji with h1 | rfl
  ·exact h j hj h1
  ·exact hn
 ·refine .inr ⟨b, hb, e, by omega, hc, fun j hj hji hcj => ?_⟩
  rcases Nat.lt_succ_iff_lt_or_eq.1 hji with h1 | rfl
  ·exact hmin j hj h1 hcj
  ·exact absurd hcj hn
theorem BestIs.keep {l : List L8} {k i b : Nat} (hb : b < l.length) (h : BestIs l k i (b : Int)) (hi : i < l.length) (hn : ¬ l[i] < l[b]) : BestIs l k (i + 1) (b : Int) := by
 rcases h with ⟨e, _⟩ | ⟨b', hb', e, hbi, hc, hmin⟩
 ·omega
 ·obtain rfl : b = b' := by omega
  refine .inr ⟨b, hb, e, by omega, hc, fun j hj hji hcj => ?_⟩
  rcases Nat.lt_succ_iff_lt_or_eq.1 hji with h1 | rfl
  ·exact hmin j hj h1 hcj
  ·exact le_of_nlt hn
theorem BestIs.first {l : List L8} {k i : Nat} (h : BestIs l k i (-1)) (hi : i < l.length) (hc : cand l k l[i]) : BestIs l k (i + 1) (i : Int) := by
 rcases h with ⟨_, h⟩ | ⟨b, hb, e, _⟩
 ·refine .inr ⟨i, hi, rfl, by omega, hc, fun j hj hji hcj => ?_⟩
  rcases Nat.lt_succ_iff_lt_or_eq.1 hji with h1 | rfl
  ·exact absurd hcj (h j hj h1)
  ·exact List.le_refl _
 ·omega
theorem BestIs.less {l : List L8} {k i b : Nat} (hb : b < l.length) (h : BestIs l k i (b : Int)) (hi : i < l.length) (hc : cand l k l[i]) (hl : l[i] < l[b]) : BestIs l k (i + 1) (i : Int) := by
 rcases h with ⟨e, _⟩ | ⟨b', hb', e, hbi, hc', hmin⟩
 ·omega
 ·obtain rfl : b = b' := by omega
  refine .inr ⟨i, hi, rfl, by omega, hc, fun j hj hji hcj => ?_⟩
  rcases Nat.lt_succ_iff_lt_or_eq.1 hji with h1 | rfl
  ·exact List.le_trans (le_of_lt hl) (hmin j hj h1 hcj)
  ·exact List.le_refl _
theorem BestIs.done_none {l : List L8} {k : Nat} (hk : k ≤ (sortL l).length) (h : BestIs l k l.length (-1)) : k = (sortL l).length := by
 rcases h with ⟨_, h⟩ | ⟨b, hb, e, _⟩
 ·refine none_left hk fun y hy hc => ?_
  obtain ⟨j, hj, rfl⟩ := List.mem_iff_getElem.1 hy
  exact h j hj hj hc
 ·omega
theorem BestIs.done_some {l : List L8} {k b : Nat} (hk : k ≤ (sortL l).length) (hb : b < l.length) (h : BestIs l k l.length (b : Int)) : ∃ h : k < (sortL l).length, (sortL l)[k] = l[b] := by
 rcases h with ⟨e, _⟩ | ⟨b', hb', e, _, hc, hmin⟩
 ·omega
 ·obtain rfl : b = b' := by omega
  refine next_is hk (List.getElem_mem _) hc fun z hz hcz => ?_
  obtain ⟨j, hj, rfl⟩ := List.mem_iff_getElem.1 hz
  exact hmin j hj hj hcz
theorem BestIs.place {l : List L8} {k i : Nat} {bz : Int} (h : BestIs l k i bz) : bz = -1 ∨ ∃ b : Nat, bz = b ∧ b < l.length := by
 rcases h with ⟨e, _⟩ | ⟨b, hb, e, _⟩
 ·exact .inl e
 ·exact .inr ⟨b, e, hb⟩
theorem cand_zero (l : List L8) (y : L8) : cand l 0 y := .inl rfl
theorem cand_pos {l : List L8} {k : Nat} (hk : 0 < k) (hk' : k - 1 < (sortL l).length) (y : L8) : cand l k y ↔ (sortL l)[k - 1] < y := by
 unfold cand
 rw [List.getD_eq_getElem?_getD, List.getElem?_eq_getElem hk']
 exact ⟨fun h => by
  rcases h with h | h; · omega
  ·exact h, fun h => .inr h⟩
theorem owns_read {w : World} {base n : Nat} {e : TypeId} {v : Value} {l : List L8} (h : w.ownsRow base e 1 v n (l.map encStr)) :
  ∃ a cap, v = .slice a n cap ∧ n ≤ cap ∧ cap ≤ maxLen ∧ l.length = n ∧ (n = 0 ∨ ∃ g, a = some ⟨g, 0, none⟩ ∧ ∀ j (hj : j < l.length), w.cell? ⟨g, j, none⟩ = some (.string (ba l[j]))) := by
 have hl : l.length = n := by simpa using h.1
 have hc : ∀ (g len cap : Nat), v = .slice (some ⟨g, 0, none⟩) len cap → ∀ j (hj : j < l.length), w.cell? ⟨g, j, none⟩ = some (.string (ba l[j])) := fun g len cap hv j hj => by
  subst hv
  have := h.cells (g := g) rfl j (encStr l[j]) (by rw [List.getElem?_map, List.getElem?_eq_getElem hj]; rfl)
  rw [add_plain, Nat.zero_add] at this
  exact this
 rcases h.2 with ⟨e0, h0⟩ | ⟨g, cap, cur, hv, _, _, h1, h2, _⟩
 ·subst h0
  exact ⟨none, 0, e0, Nat.le_refl _, Nat.zero_le _, hl, .inl rfl⟩
 ·exact ⟨_, cap, hv, h1, h2, hl, .inr ⟨g, rfl, hc g n cap hv⟩⟩
theorem less_true {x y : L8} (h : x < y) : Op.bytesLess (ba x).toList (ba y).toList = true := by rw [ba_list, ba_list, bytesLess_eq]; exact decide_eq_true h
theorem less_false {x y : L8} (h : ¬ x < y) : Op.bytesLess (ba x).toList (ba y).toList = false := by rw [ba_list, ba_list, bytesLess_eq]; exact decide_eq_false h
theorem eq_true' {x y : L8} (h : x = y) : ((ba x).toList == (ba y).toList) = true := by rw [h]; exact beq_self_eq_true _
theorem eq_false' {x y : L8} (h : x ≠ y) : ((ba x).toList == (ba y).toList) = false := by rw [ba_list, ba_list]; exact beq_eq_false_iff_ne.2 h
end
section
open Go.RowKit Go.Sort
open Nw Go.ChangeShapes Go.WideShapes
theorem infoM : (Tryz.prog.info? 9).map (fun i => (i.zero, i.size, i.bytes)) = some (some (.string ByteArray.empty), 1, 16) := by kernel_rfl
theorem infoS : ∃ i, Tryz.prog.info? 9 = some i ∧ i.zero = some (.string ByteArray.empty) ∧ i.size = 1 ∧ i.bytes = 16 := by
 have h := infoM
 cases hi : Tryz.prog.info? 9 with
 | none => rw [hi] at h; cases h
 | some i =>
  rw [hi] at h
  simp only [Option.map_some, Option.some.injEq, Prod.mk.injEq] at h
  exact ⟨i, rfl, h.1, h.2.1, h.2.2⟩
theorem own_literal (w : World) (base : Nat) (hb : base ≤ w.heap.size) : (w.alloc (.cells #[] 9)).ownsRow base 9 1 (.slice (some ⟨w.heap.size, 0, none⟩) 0 0) 0 [] :=
 ⟨rfl, .inr ⟨w.heap.size, 0, #[], rfl, hb, Array.getElem?_push_size (xs := w.heap), Nat.le_refl _, Nat.zero_le _, rfl, rfl⟩⟩
theorem drewN_cell (w : World) (q : Nat) (p : Addr) : (w.drewN q).cell? p = w.cell? p := rfl
theorem drewN_drewN (w : World) (q n : Nat) : (w.drewN q).drewN n = w.drewN (q + n) := by
 unfold World.drewN
 simp [Nat.add_assoc]
theorem RSorted_own (v : Value) (l : List L8) (w : World) (h : Rd w v l) (hbig : l.length ≤ 4398046511103) :
  Calls Tryz.prog 33 #[v] w fun e w' => ∃ v', e = .returned v' ∧ w'.ownsRow w.heap.size 9 1 v' (sortL l).length ((sortL l).map encStr) ∧ Below w.heap.size w w' := by
 obtain ⟨i0, hi, hz0, hz1, hz2⟩ := infoS
 obtain ⟨a, cap, rfl, h1, h2, h3⟩ := h
 obtain ⟨S, hS⟩ : ∃ S, S = sortL l := ⟨_, rfl⟩
 have HS := hid hS
 have hSl : S.length ≤ l.length := by rw [hS]; exact sortL_length_le l
 rw [← hS]
 clear hS
 unfold maxLen at h2
 have H3 := hid h3
 clear h3
 go_enter Tryz.func33, Tryz.ntmps33
 go_wp2
 go_loopg [3, 4, 5] S.length (fun gg v3 v4 v5 wr => ∃ k : Nat, k ≤ S.length ∧ S.length - k ≤ gg ∧ wr.ownsRow w.heap.size 9 1 v3 k ((S.take k).map encStr) ∧ Below w.heap.size w wr)
 case atStart => exact ⟨0, Nat.zero_le _, by omega, own_literal w _ (Nat.le_refl _), (Below.refl _ _).alloc (Nat.le_refl _) _⟩
 case round =>
  obtain ⟨k, hk, hgg, hown, hbel⟩ := hrel
  obtain ⟨w0, hw0⟩ : ∃ w0, w0 = wr := ⟨_, rfl⟩
  subst hw0
  have HW := hid hown
  have HL := hid hbel
  obtain ⟨a3, cap3, rfl, k1, k2, k3, k4⟩ := owns_read hown
  unfold maxLen at k2
  have K4 := hid k4
  clear hown hbel k4
  go_wp2
  go_loopw [4, 5] (fun best i wi => ∃ (j : Nat) (bz : Int) (q : Nat), j ≤ l.length ∧ i = .int .i64 j ∧ best = .int .i64 bz ∧ BestIs l k j bz ∧ wi = w0.drewN q) (fun _ i _ => l.length - (intOf i).toNat)
  case atStart => exact ⟨0, -1, 0, Nat.zero_le _, rfl, rfl, BestIs.start l k, rfl⟩
  case round =>
   obtain ⟨j, bz, q, hj, rfl, rfl, hbest, hwi⟩ := hrel
   have HBI := hid hbest
   have HWI := hid hwi
   clear hbest hwi
   by_cases hlt : j < l.length
   ·rcases H3.out with ⟨e0, _⟩ | ⟨b, o, ha, h4, h5⟩
    ·rw [e0] at hlt; exact absurd hlt (Nat.not_lt_zero _)
    subst ha
    have hcAt : ∀ (n : Nat) (hn : n < l.length), wr.cell? ⟨b, o + n, none⟩ = some (.string (ba l[n])) := fun n hn => by rw [HWI.out, drewN_cell]; exact (HL.out.cell (p := ⟨b, o + n, none⟩) h4).trans (h5 n hn)
    have HCA := hid hcAt
    have hc := hcAt j hlt
    clear h5 hcAt
    have hltz : (j : Int) < (l.length : Int) := by omega
    by_cases hk0 : k = 0
    ·have hk0z : ((k : Int) == 0) = true := by rw [hk0]; rfl
     have HCand : Hid (cand l k l[j]) := hid (by rw [hk0]; exact cand_zero _ _)
     clear hk0
     rcases HBI.out.place with hbz | ⟨b2, hbz, hb2⟩
     ·subst hbz
      generalize ba l[j] = X at hc
      go_wp2
      go_quiet (fail)
      go_wp2
      go_roundw
      case rel => exact ⟨j + 1, (j : Int), q + nq, by omega, by go_num, rfl, HBI.out.first hlt HCand.out, by rw [HWI.out]; exact drewN_drewN _ _ _⟩
      case measure => simp [intOf]; omega
     ·subst hbz
      have hc2 := HCA.out b2 hb2
      have hn1 : decide ((b2 : Int) < 0) = false := decide_eq_false (by omega)
      have hb2z : (b2 : Int) < (l.length : Int) := by omega
      by_cases hll : l[j] < l[b2]
      ·have HLL := hid hll
       have t1 := less_true hll
       clear hll
       generalize ba l[j] = X at hc t1
       generalize ba l[b2] = Y at hc2 t1
       go_wp2
       go_quiet (fail)
       go_wp2
       go_roundw
       case rel => exact ⟨j + 1, (j : Int), q + nq, by omega, by go_num, rfl, HBI.out.less hb2 hlt HCand.out HLL.out, by rw [HWI.out]; exact drewN_drewN _ _ _⟩
       case measure => simp [intOf]; omega
      ·have HLL := hid hll
       have t1 := less_false hll
       clear hll
       generalize ba l[j] = X at hc t1
       generalize ba l[b2] = Y at hc2 t1
       go_wp2
       go_quiet (fail)
       go_wp2
       go_roundw
       case rel => exact ⟨j + 1, (b2 : Int), q + nq, by omega, by go_num, rfl, HBI.out.keep hb2 hlt HLL.out, by rw [HWI.out]; exact drewN_drewN _ _ _⟩
       case measure => simp [intOf]; omega
    ·have hk0z : ((k : Int) == 0) = false := beq_eq_false_iff_ne.2 (by omega)
     have hkS : Hid (k - 1 < S.length) := hid (by omega)
     rcases K4.out with e0 | ⟨g, ha3, k5⟩
     ·exact absurd e0 hk0
     subst ha3
     have hout : wr.cell? ⟨g, k - 1, none⟩ = some (.string (ba (S[k - 1]'hkS.out))) := by
      rw [HWI.out, drewN_cell]
      have := k5 (k - 1) (by rw [List.length_take]; omega)
      rw [List.getElem_take] at this
      exact this
     clear k5
     have HCP : Hid (cand l k l[j] ↔ S[k - 1]'hkS.out < l[j]) := hid (by have := cand_pos (l := l) (k := k) (by omega) (by rw [← HS.out]; exact hkS.out) l[j]; rw [this]; simp [HS.out])
     have c1 : (0 : Int) ≤ (k : Int) - 1 := by omega
     have c2 : ((k : Int) - 1).toNat = k - 1 := by omega
     have c3 : k - 1 < k := by omega
     have c4 : (1 : Int) ≤ (k : Int) := by omega
     have c7 : (k : Int) - 1 < (k : Int) := by omega
     have c5 : 0 < k := by omega
     have c6 : IntKind.i64.wrap ((k : Int) - 1) = (k : Int) - 1 := wrap_small _ (by omega) (by omega)
     have hS1 : k - 1 + 1 = k := by omega
     generalize (S[k - 1]'hkS.out) = s0 at hout HCP
     by_cases hgt : s0 < l[j]
     ·have HCand : Hid (cand l k l[j]) := hid (HCP.out.2 hgt)
      have u1 : Op.bytesLess (ba l[j]).toList (ba s0).toList = false := less_false fun h => lt_irr _ (lt_tr h hgt)
      have u2 : ((ba l[j]).toList == (ba s0).toList) = false := eq_false' fun h => by rw [h] at hgt; exact lt_irr _ hgt
      clear hgt
      generalize ba s0 = Z at hout u1 u2
      rcases HBI.out.place with hbz | ⟨b2, hbz, hb2⟩
      ·subst hbz
       generalize ba l[j] = X at hc u1 u2
       go_wp2
       go_quiet (fail)
       go_wp2
       go_roundw
       case rel => exact ⟨j + 1, (j : Int), q + nq, by omega, by go_num, rfl, HBI.out.first hlt HCand.out, by rw [HWI.out]; exact drewN_drewN _ _ _⟩
       case measure => simp [intOf]; omega
      ·subst hbz
       have hc2 := HCA.out b2 hb2
       have hn1 : decide ((b2 : Int) < 0) = false := decide_eq_false (by omega)
       have hb2z : (b2 : Int) < (l.length : Int) := by omega
       by_cases hll : l[j] < l[b2]
       ·have HLL := hid hll
        have t1 := less_true hll
        clear hll
        generalize ba l[j] = X at hc t1 u1 u2
        generalize ba l[b2] = Y at hc2 t1
        go_wp2
        go_quiet (fail)
        go_wp2
        go_roundw
        case rel => exact ⟨j + 1, (j : Int), q + nq, by omega, by go_num, rfl, HBI.out.less hb2 hlt HCand.out HLL.out, by rw [HWI.out]; exact drewN_drewN _ _ _⟩
        case measure => simp [intOf]; omega
       ·have HLL := hid hll
        have t1 := less_false hll
        clear hll
        generalize ba l[j] = X at hc t1 u1 u2
        generalize ba l[b2] = Y at hc2 t1
        go_wp2
        go_quiet (fail)
        go_wp2
        go_roundw
        case rel => exact ⟨j + 1, (b2 : Int), q + nq, by omega, by go_num, rfl, HBI.out.keep hb2 hlt HLL.out, by rw [HWI.out]; exact drewN_drewN _ _ _⟩
        case measure => simp [intOf]; omega
     ·have HN : Hid (¬ cand l k l[j]) := hid fun h => hgt (HCP.out.1 h)
      by_cases heq : l[j] = s0
      ·have u2 := eq_true' heq
       clear hgt heq
       generalize ba s0 = Z at hout u2
       generalize ba l[j] = X at hc u2
       go_wp2
       go_quiet (fail)
       go_wp2
       go_roundw
       case rel => exact ⟨j + 1, bz, q + nq, by omega, by go_num, rfl, HBI.out.skip hlt HN.out, by rw [HWI.out]; exact drewN_drewN _ _ _⟩
       case measure => simp [intOf]; omega
      ·have u2 := eq_false' heq
       have u1 : Op.bytesLess (ba l[j]).toList (ba s0).toList = true := less_true (lt_of_le_ne (le_of_nlt hgt) heq)
       clear hgt heq
       generalize ba s0 = Z at hout u1 u2
       generalize ba l[j] = X at hc u1 u2
       go_wp2
       go_quiet (fail)
       go_wp2
       go_roundw
       case rel => exact ⟨j + 1, bz, q + nq, by omega, by go_num, rfl, HBI.out.skip hlt HN.out, by rw [HWI.out]; exact drewN_drewN _ _ _⟩
       case measure => simp [intOf]; omega
   ·obtain rfl : j = l.length := by omega
    rcases HBI.out.place with hbz | ⟨b2, hbz, hb2⟩
    ·subst hbz
     have hkk : k = (sortL l).length := HBI.out.done_none (by rw [← HS.out]; exact hk)
     have HKK := hid hkk
     clear hkk
     go_wp2
     go_ret
     refine ⟨_, rfl, ?_, ?_⟩
     ·have := HW.out
      have e : k = S.length := by rw [HS.out]; exact HKK.out
      rw [e, List.take_length] at this
      rw [HWI.out, ← e]
      rw [← e] at this
      exact this
     ·rw [HWI.out]; exact HL.out.trans ((below_drewN _ _).mono HL.out.size)
    ·subst hbz
     have hn1 : decide ((b2 : Int) < 0) = false := decide_eq_false (by omega)
     rcases H3.out with ⟨e0, _⟩ | ⟨b, o, ha, h4, h5⟩
     ·rw [e0] at hb2; exact absurd hb2 (Nat.not_lt_zero _)
     subst ha
     have hc2 : wr.cell? ⟨b, o + b2, none⟩ = some (.string (ba l[b2])) := by rw [HWI.out, drewN_cell]; exact (HL.out.cell (p := ⟨b, o + b2, none⟩) h4).trans (h5 b2 hb2)
     clear h5
     have hb2z : (b2 : Int) < (l.length : Int) := by omega
     obtain ⟨hks, hnext⟩ := HBI.out.done_some (by rw [← HS.out]; exact hk) hb2
     have hks' : Hid (k < S.length) := hid (by rw [HS.out]; exact hks)
     have HX : Hid ((S.take (k + 1)).map encStr = (S.take k).map encStr ++ [.string (ba l[b2])]) := hid (by
      rw [List.take_succ_eq_append_getElem hks'.out, List.map_append, ← hnext]
      simp only [HS.out]
      rfl)
     clear hnext hks
     generalize ba l[b2] = X at hc2 HX
     have hown : wr.ownsRow w.heap.size 9 1 (.slice a3 k cap3) k ((S.take k).map encStr) := by rw [HWI.out]; exact HW.out
     have HL2 : Hid (Below w.heap.size w wr) := hid (by rw [HWI.out]; exact HL.out.trans ((below_drewN _ _).mono HL.out.size))
     have HO := hid hown
     obtain ⟨XS, hXS⟩ : ∃ XS, XS = (S.take k).map encStr := ⟨_, rfl⟩
     rw [← hXS] at hown
     have HXS := hid hXS
     clear hXS
     go_wp2_with (at_builtin; refine wpList_append_own _ rfl _ _ 22 rfl w.heap.size 9 i0 _ 1 16 Tryz.underlying22 hi hz0 hz1 hz2 rfl (by decide) _ _ _ rfl (hown.alloc _) ⟨wr.heap.size, 0, none⟩ 1 1 [.string X] rfl rfl ?c1 ?c2 ?c3 ?c4 ?c5 ?_)
     case c1 =>
      intro j u hj
      match j, hj with
      | 0, hj => simp at hj; subst hj; simp [Addr.add]
     case c2 => intro u hu; simp at hu; subst hu; rfl
     case c3 => unfold maxLen; omega
     case c4 => omega
     case c5 => have := HL2.out.size; simp; omega
     ·intro v' w2 hown' hgrow _
      have HW2 := hid hown'
      have HG2 := hid hgrow
      clear hown' hgrow hown
      go_wp2
      go_roundg (S.length - (k + 1))
      case measure => have := hks'.out; omega
      case rel =>
       refine ⟨k + 1, hks'.out, Nat.le_refl _, ?_, ?_⟩
       ·rw [HX.out, ← HXS.out]; exact HW2.out
       ·refine (HL2.out.alloc HL2.out.size _).grown HG2.out (by have := HL2.out.size; simp; omega) ?_
        intro p hp
        exact (HO.out.lt p hp).1
end
end Go.Proofs.YtmdgpejedbkkdaaGreatDoor
