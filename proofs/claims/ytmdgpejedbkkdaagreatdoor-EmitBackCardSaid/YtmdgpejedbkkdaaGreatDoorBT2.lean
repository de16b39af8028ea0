/- NamListMath, NamRd, NamRsame, NamRsortMath, ShelfS, NamInP -/
import Derived.Below
import Derived.BigQuiet
import Derived.ChangeAlike
import Derived.Deep.LoopGhost
import Derived.Deep.QuietTactic
import Derived.Lib.Hide
import Derived.Lib.OwnBridge
import Derived.Lib.SlicesCompact
import Derived.ProofKit
import Derived.RegionTactic
import Derived.Shelf.Lay
import Derived.Shelf.Slices.CompactS
import Derived.Shelf.Slices.In.SortNone
import Derived.Shelf.Slices.Turned
import Derived.Shelf.Small.Strs
import Derived.Shelf.Sort.Plain
import Derived.Shelf.Spec.SearchS
import Derived.Shelf.Spec.SlicesGrow
import Derived.Sort.OwnSorted
import Derived.Sort.Walk0
import Derived.Test.YtmdgpejedbkkdaaGreatDoorProg
import Derived.Test.YtmdgpejedbkkdaaGreatDoorRows
import Derived.WalkKit
set_option linter.unusedVariables false
set_option linter.unusedSimpArgs false
set_option maxRecDepth 100000
set_option maxHeartbeats 16000000
open Go.Lib (hid)
namespace Go.Proofs.YtmdgpejedbkkdaaGreatDoor
namespace Nw
abbrev L8 := List UInt8
def Asc (l : List L8) : Prop := l.Pairwise (· < ·)
def sortL (l : List L8) : List L8 := Lib.compact (l.mergeSort fun x y => decide (x ≤ y))
theorem lt_irr (x : L8) : ¬ x < x := List.lt_irrefl x
theorem lt_tr {x y z : L8} (h : x < y) (k : y < z) : x < z := List.lt_trans h k
theorem le_of_nlt {x y : L8} (h : ¬ x < y) : y ≤ x := List.not_lt.1 h
theorem lt_of_le_ne {x y : L8} (h : x ≤ y) (k : x ≠ y) : x < y := by
 rcases Classical.em (x < y) with h1 | h1
 ·exact h1
 ·exact absurd (List.le_antisymm h (le_of_nlt h1)) k
theorem le_of_lt {x y : L8} (h : x < y) : x ≤ y := List.le_of_lt h
theorem asc_unique : ∀ {a b : List L8}, Asc a → Asc b → (∀ x, x ∈ a ↔ x ∈ b) → a = b
 | [], [], _, _, _ => rfl
 | [], y :: b, _, _, h => absurd ((h y).2 List.mem_cons_self) List.not_mem_nil
 | x :: a, [], _, _, h => absurd ((h x).1 List.mem_cons_self) List.not_mem_nil
 | x :: a, y :: b, ha, hb, h => by
  have ha' := List.pairwise_cons.1 ha
  have hb' := List.pairwise_cons.1 hb
  have e : x = y := by
   rcases List.mem_cons.1 ((h x).1 List.mem_cons_self) with e | e
   ·exact e
   ·rcases List.mem_cons.1 ((h y).2 List.mem_cons_self) with e2 | e2
    ·exact e2.symm
    ·exact absurd (lt_tr (hb'.1 x e) (ha'.1 y e2)) (lt_irr _)
  subst e
  rw [asc_unique ha'.2 hb'.2 fun z => ⟨fun hz => ?_, fun hz => ?_⟩]
  ·rcases List.mem_cons.1 ((h z).1 (List.mem_cons_of_mem _ hz)) with e | e
   ·subst e; exact absurd (ha'.1 _ hz) (lt_irr _)
   ·exact e
  ·rcases List.mem_cons.1 ((h z).2 (List.mem_cons_of_mem _ hz)) with e | e
   ·subst e; exact absurd (hb'.1 _ hz) (lt_irr _)
   ·exact e
theorem compactUpTo_facts (d : Array L8) (hd : ∀ i j, i < j → j < d.size → d[i]! ≤ d[j]!) : ∀ m, m ≤ d.size → Asc (Lib.compactUpTo d m) ∧ ∀ x, x ∈ Lib.compactUpTo d m ↔ ∃ j, j < m ∧ d[j]! = x
 | 0, _ => by
  refine ⟨by simp [Lib.compactUpTo, Asc], fun x => ?_⟩
  simp [Lib.compactUpTo]
 | m + 1, hm => by
  obtain ⟨ih1, ih2⟩ := compactUpTo_facts d hd m (by omega)
  rw [Lib.compactUpTo_succ]
  by_cases hk : Lib.keeps d m = true
  ·rw [if_pos hk]
   constructor
   ·unfold Asc at ih1 ⊢
    rw [List.pairwise_append]
    refine ⟨ih1, by simp, fun x hx y hy => ?_⟩
    obtain ⟨j, hj, rfl⟩ := (ih2 x).1 hx
    obtain rfl : y = d[m]! := by simpa using hy
    have hkk : m = 0 ∨ d[m]! ≠ d[m - 1]! := by unfold Lib.keeps at hk; exact of_decide_eq_true hk
    rcases hkk with h0 | h0
    ·omega
    ·have h1 : d[j]! ≤ d[m - 1]! := by
      rcases Nat.lt_or_ge j (m - 1) with h2 | h2
      ·exact hd j (m - 1) h2 (by omega)
      ·obtain rfl : j = m - 1 := by omega
       exact List.le_refl _
     have h2 : d[m - 1]! < d[m]! := lt_of_le_ne (hd (m - 1) m (by omega) (by omega)) (fun e => h0 e.symm)
     exact List.lt_of_le_of_lt h1 h2
   ·intro x
    rw [List.mem_append, ih2 x]
    constructor
    ·rintro (⟨j, hj, rfl⟩ | h)
     ·exact ⟨j, by omega, rfl⟩
     ·obtain rfl : x = d[m]! := by simpa using h
      exact ⟨m, by omega, rfl⟩
    ·rintro ⟨j, hj, rfl⟩
     rcases Nat.lt_or_ge j m with h | h
     ·exact .inl ⟨j, h, rfl⟩
     ·obtain rfl : j = m := by omega
      exact .inr (by simp)
  ·rw [if_neg hk, List.append_nil]
   have hkk : ¬ (m = 0 ∨ d[m]! ≠ d[m - 1]!) := by unfold Lib.keeps at hk; exact fun h => hk (decide_eq_true h)
   have h0 : m ≠ 0 := fun e => hkk (.inl e)
   have h1 : d[m]! = d[m - 1]! := Classical.byContradiction fun e => hkk (.inr e)
   refine ⟨ih1, fun x => ?_⟩
   rw [ih2 x]
   constructor
   ·rintro ⟨j, hj, rfl⟩; exact ⟨j, by omega, rfl⟩
   ·rintro ⟨j, hj, rfl⟩
    rcases Nat.lt_or_ge j m with h | h
    ·exact ⟨j, h, rfl⟩
    ·obtain rfl : j = m := by omega
     exact ⟨j - 1, by omega, h1.symm⟩
theorem ms_sorted (l : List L8) : (l.mergeSort fun x y => decide (x ≤ y)).Pairwise (· ≤ ·) := by
 have := List.pairwise_mergeSort (le := fun (x y : L8) => decide (x ≤ y)) (fun a b c h k => decide_eq_true (List.le_trans (of_decide_eq_true h) (of_decide_eq_true k))) (fun a b => by
  rcases List.le_total a b with h | h
  ·simp [h]
  ·simp [h]) l
 exact this.imp fun h => of_decide_eq_true h
theorem sortL_facts (l : List L8) : Asc (sortL l) ∧ ∀ x, x ∈ sortL l ↔ x ∈ l := by
 have hs := ms_sorted l
 generalize hm : (l.mergeSort fun x y => decide (x ≤ y)) = m at hs
 have hp : m.Perm l := hm ▸ List.mergeSort_perm l _
 have hd : ∀ i j, i < j → j < m.toArray.size → m.toArray[i]! ≤ m.toArray[j]! := fun i j hij hj => by
  have hj' : j < m.length := by simpa using hj
  have := List.pairwise_iff_getElem.1 hs i j (by omega) hj' hij
  rw [getElem!_pos m.toArray i (by simp; omega), getElem!_pos m.toArray j (by simpa using hj')]
  simpa using this
 obtain ⟨h1, h2⟩ := compactUpTo_facts m.toArray hd m.length (by simp)
 have e : sortL l = Lib.compactUpTo m.toArray m.length := by unfold sortL; rw [hm]; rfl
 rw [e]
 refine ⟨h1, fun x => ?_⟩
 rw [h2 x, ← hp.mem_iff]
 constructor
 ·rintro ⟨j, hj, rfl⟩
  rw [getElem!_pos m.toArray j (by simpa using hj)]; simp
 ·intro hx
  obtain ⟨j, hj, rfl⟩ := List.mem_iff_getElem.1 hx
  exact ⟨j, hj, by rw [getElem!_pos m.toArray j (by simpa using hj)]; simp⟩
theorem sortL_asc (l : List L8) : Asc (sortL l) := (sortL_facts l).1
theorem mem_sortL {l : List L8} {x : L8} : x ∈ sortL l ↔ x ∈ l := (sortL_facts l).2 x
theorem sortL_eq {l S : List L8} (h : Asc S) (hm : ∀ x, x ∈ S ↔ x ∈ l) : sortL l = S := asc_unique (sortL_asc l) h fun x => by rw [mem_sortL, hm]
theorem sortL_nil : sortL [] = [] := asc_unique (sortL_asc []) List.Pairwise.nil fun x => by rw [mem_sortL]
theorem asc_filter {l : List L8} (p : L8 → Bool) (h : Asc l) : Asc (l.filter p) := List.Pairwise.filter p h
theorem asc_get {S : List L8} (h : Asc S) {i j : Nat} (hij : i < j) (hj : j < S.length) : S[i] < S[j] := List.pairwise_iff_getElem.1 h i j (by omega) hj hij
theorem asc_le {S : List L8} (h : Asc S) {i j : Nat} (hij : i ≤ j) (hj : j < S.length) : S[i] ≤ S[j] := by
 rcases Nat.lt_or_eq_of_le hij with h1 | rfl
 ·exact le_of_lt (asc_get h h1 hj)
 ·exact List.le_refl _
theorem sortL_length_le (l : List L8) : (sortL l).length ≤ l.length := by
 have : (Lib.compact (l.mergeSort fun x y => decide (x ≤ y))).length ≤ (l.mergeSort fun x y => decide (x ≤ y)).length := by
  unfold Lib.compact Lib.compactUpTo
  rw [List.length_map]
  exact Nat.le_trans (List.length_filter_le _ _) (by simp)
 rwa [List.length_mergeSort] at this
theorem count_eq (a b : List L8) : (sortL (a ++ b)).length = ((sortL a).filter fun x => !decide (x ∈ b)).length + (sortL b).length := by
 have e1 : (sortL a).filter (fun x => !decide (x ∈ b)) = (sortL (a ++ b)).filter (fun x => !decide (x ∈ b)) := by
  refine asc_unique (asc_filter _ (sortL_asc _)) (asc_filter _ (sortL_asc _)) fun x => ?_
  rw [List.mem_filter, List.mem_filter, mem_sortL, mem_sortL]
  simp only [List.mem_append, Bool.not_eq_true', decide_eq_false_iff_not]
  constructor
  ·rintro ⟨h, k⟩; exact ⟨.inl h, k⟩
  ·rintro ⟨h | h, k⟩
   ·exact ⟨h, k⟩
   ·exact absurd h k
 have e2 : sortL b = (sortL (a ++ b)).filter (fun x => decide (x ∈ b)) := by
  refine asc_unique (sortL_asc _) (asc_filter _ (sortL_asc _)) fun x => ?_
  rw [List.mem_filter, mem_sortL, mem_sortL]
  simp only [List.mem_append, decide_eq_true_eq]
  constructor
  ·intro h; exact ⟨.inr h, h⟩
  ·rintro ⟨_, h⟩; exact h
 rw [e1]
 conv => rhs; rw [e2]
 have : ∀ S : List L8, S.length = (S.filter fun x => !decide (x ∈ b)).length + (S.filter fun x => decide (x ∈ b)).length := by
  intro S
  induction S with
  | nil => rfl
  | cons x S ih => by_cases h : x ∈ b <;> simp [h] at ih ⊢ <;> omega
 exact this _
def cand (l : List L8) (k : Nat) (y : L8) : Prop := k = 0 ∨ (sortL l).getD (k - 1) [] < y
theorem cand_mem {l : List L8} {k : Nat} (hk : k ≤ (sortL l).length) {y : L8} (hy : y ∈ l) (hc : cand l k y) : ∃ m, ∃ h : m < (sortL l).length, k ≤ m ∧ (sortL l)[m] = y := by
 obtain ⟨m, hm, rfl⟩ := List.mem_iff_getElem.1 (mem_sortL.2 hy)
 refine ⟨m, hm, ?_, rfl⟩
 rcases hc with h0 | h0
 ·omega
 ·refine Nat.le_of_not_lt fun hl => ?_
  rw [List.getD_eq_getElem?_getD, List.getElem?_eq_getElem (by omega)] at h0
  have h1 := asc_le (sortL_asc l) (show m ≤ k - 1 by omega) (by omega)
  exact lt_irr _ (List.lt_of_le_of_lt h1 h0)
theorem cand_next {l : List L8} {k : Nat} (hk : k < (sortL l).length) : (sortL l)[k] ∈ l ∧ cand l k (sortL l)[k] := by
 refine ⟨mem_sortL.1 (List.getElem_mem _), ?_⟩
 rcases Nat.eq_zero_or_pos k with h | h
 ·exact .inl h
 ·refine .inr ?_
  rw [List.getD_eq_getElem?_getD, List.getElem?_eq_getElem (by omega)]
  exact asc_get (sortL_asc l) (by omega) hk
theorem none_left {l : List L8} {k : Nat} (hk : k ≤ (sortL l).length) (h : ∀ y ∈ l, ¬ cand l k y) : k = (sortL l).length := by
 refine Nat.le_antisymm hk (Nat.le_of_not_lt fun hl => ?_)
 obtain ⟨h1, h2⟩ := cand_next hl
 exact h _ h1 h2
theorem next_is {l : List L8} {k : Nat} (hk : k ≤ (sortL l).length) {y : L8} (hy : y ∈ l) (hc : cand l k y) (hmin : ∀ z ∈ l, cand l k z → y ≤ z) : ∃ h : k < (sortL l).length, (sortL l)[k] = y := by
 obtain ⟨m, hm, hkm, rfl⟩ := cand_mem hk hy hc
 have hk' : k < (sortL l).length := by omega
 refine ⟨hk', ?_⟩
 obtain ⟨h1, h2⟩ := cand_next hk'
 exact List.le_antisymm (asc_le (sortL_asc l) hkm hm) (hmin _ h1 h2)
end Nw
end Go.Proofs.YtmdgpejedbkkdaaGreatDoor
namespace Go.Proofs.YtmdgpejedbkkdaaGreatDoor
section
open Go.RowKit Go.Sort Go.Lib
open Nw
def ba (x : L8) : ByteArray := ⟨x.toArray⟩
theorem ba_data (x : L8) : (ba x).data.toList = x := by simp [ba]
theorem ba_list (x : L8) : (ba x).toList = x := by rw [ByteArray.toList_eq, ba_data]
theorem ba_of (s : ByteArray) : ba s.data.toList = s := by cases s; simp [ba]
def Rd (w : World) (v : Value) (l : List L8) : Prop :=
 ∃ (a : Option Addr) (cap : Nat), v = .slice a l.length cap ∧ l.length ≤ cap ∧ cap ≤ maxLen ∧
  ((l = [] ∧ (a = none → cap = 0)) ∨ ∃ b o, a = some ⟨b, o, none⟩ ∧ b < w.heap.size ∧ ∀ j (h : j < l.length), w.cell? ⟨b, o + j, none⟩ = some (.string (ba l[j])))
theorem Rd.below {w w' : World} {v : Value} {l : List L8} (h : Rd w v l) (hb : Below w.heap.size w w') : Rd w' v l := by
 obtain ⟨a, cap, rfl, h1, h2, h3⟩ := h
 refine ⟨a, cap, rfl, h1, h2, ?_⟩
 rcases h3 with h3 | ⟨b, o, rfl, h4, h5⟩
 ·exact .inl h3
 ·exact .inr ⟨b, o, rfl, Nat.lt_of_lt_of_le h4 hb.size, fun j hj => (hb.cell (p := ⟨b, o + j, none⟩) h4).trans (h5 j hj)⟩
theorem Rd.cases {w : World} {v : Value} {l : List L8} (h : Rd w v l) :
  (∃ a cap, v = .slice a 0 cap ∧ l = [] ∧ cap ≤ maxLen ∧ (a = none → cap = 0)) ∨ (∃ b o cap, v = .slice (some ⟨b, o, none⟩) l.length cap ∧ l.length ≤ cap ∧ cap ≤ maxLen ∧ b < w.heap.size ∧ ∀ j (h : j < l.length), w.cell? ⟨b, o + j, none⟩ = some (.string (ba l[j]))) := by
 obtain ⟨a, cap, rfl, h1, h2, h3⟩ := h
 rcases h3 with ⟨rfl, hn⟩ | ⟨b, o, rfl, h4, h5⟩
 ·exact .inl ⟨a, cap, rfl, rfl, h2, hn⟩
 ·exact .inr ⟨b, o, cap, rfl, h1, h2, h4, h5⟩
theorem rd_empty (w : World) (a : Option Addr) (cap : Nat) (h : cap ≤ maxLen) (hn : a = none → cap = 0) : Rd w (.slice a 0 cap) [] := ⟨a, cap, rfl, Nat.zero_le _, h, .inl ⟨rfl, hn⟩⟩
theorem rd_of_owns {w : World} {base n : Nat} {e : TypeId} {v : Value} {l : List L8} (h : w.ownsRow base e 1 v n (l.map encStr)) : Rd w v l := by
 have hl : l.length = n := by simpa using h.1
 by_cases hv : v = .slice none 0 0
 ·subst hv
  rcases h.2 with ⟨_, h0⟩ | ⟨g, cap, cur, h0, _⟩
  ·obtain rfl : l = [] := List.length_eq_zero_iff.1 (by omega)
   exact rd_empty w none 0 (Nat.zero_le _) fun _ => rfl
  ·cases h0
 ·obtain ⟨g, cap, rfl, _, hg, h1, h2, _, hH⟩ := holds_of_ownsRow h hv
  subst hl
  refine ⟨_, cap, rfl, h1, h2, .inr ⟨g, 0, rfl, hg, fun j hj => ?_⟩⟩
  have := (hH j (by simpa using hj)).1
  rw [getElem!_pos l.toArray j (by simpa using hj)] at this
  have h2 : w.cell? ⟨g, 0 + j, none⟩ = some (encStr l[j]) := by simpa using this
  exact h2
theorem map_ba (l : List L8) (j : Nat) (h : j < (l.map ba).length) : (l.map ba).getD j ByteArray.empty = ba (l[j]'(by simpa using h)) := by
 rw [List.getD_eq_getElem?_getD, List.getElem?_eq_getElem h]; simp
theorem below_drewN (w : World) (q : Nat) : Below w.heap.size w (w.drewN q) := ⟨rfl, rfl, rfl, Nat.le_refl _, fun _ _ => rfl⟩
end
section
open Go.RowKit Go.Sort
open Nw
theorem ret_bool {a b : Bool} (h : a = b) : Ending.returned (.bool a) = .returned (.bool b) := by rw [h]
theorem str_ne_true {x y : L8} (h : x ≠ y) : ((ba x).toList == (ba y).toList) = false := by rw [ba_list, ba_list]; exact beq_eq_false_iff_ne.2 h
theorem str_ne_false {x : L8} : ((ba x).toList == (ba x).toList) = true := by simp
theorem RSame_any (v u : Value) (l m : List L8) (w : World) (h : Rd w v l) (k : Rd w u m) :
  Calls Tryz.prog 32 #[v, u] w fun e w' => e = .returned (.bool (decide (l = m))) ∧ Below w.heap.size w w' := by
 obtain ⟨a, cap, rfl, h1, h2, h3⟩ := h
 obtain ⟨a2, cap2, rfl, k1, k2, k3⟩ := k
 unfold maxLen at h2 k2
 by_cases hlen : l.length = m.length
 ·obtain ⟨n, hn⟩ : ∃ n, n = l.length := ⟨_, rfl⟩
  have hm : n = m.length := by omega
  have HN : Hid (n = l.length ∧ n = m.length) := hid ⟨hn, hm⟩
  rw [← hn, ← hm]
  rw [← hn] at h1
  rw [← hm] at k1
  clear hn hm hlen
  go_enter Tryz.func32, Tryz.ntmps32
  go_wp2
  go_loopw [5] (fun i wr => ∃ k : Nat, k ≤ n ∧ i = .int .i64 k ∧ (∀ j (hj : j < l.length) (hj' : j < m.length), j < k → l[j] = m[j]) ∧ Below w.heap.size w wr) (fun i _ => n - (intOf i).toNat)
  case atStart => exact ⟨0, Nat.zero_le _, rfl, fun j _ _ h => absurd h (Nat.not_lt_zero _), Below.refl _ _⟩
  case round =>
   obtain ⟨k, hk, rfl, hall, hbel⟩ := hrel
   have HA := hid hall; clear hall
   have HB := hid hbel; clear hbel
   by_cases hlt : k < n
   ·have hl : Hid (k < l.length) := hid (by have := HN.out.1; omega)
    have hm : Hid (k < m.length) := hid (by have := HN.out.2; omega)
    rcases h3 with ⟨rfl, _⟩ | ⟨b, o, rfl, h4, h5⟩
    ·exact absurd hl.out (Nat.not_lt_zero _)
    rcases k3 with ⟨rfl, _⟩ | ⟨b2, o2, rfl, k4, k5⟩
    ·exact absurd hm.out (Nat.not_lt_zero _)
    have hc := (HB.out.cell (p := ⟨b, o + k, none⟩) h4).trans (h5 k hl.out)
    have kc := (HB.out.cell (p := ⟨b2, o2 + k, none⟩) k4).trans (k5 k hm.out)
    clear h5 k5
    have hltz : (k : Int) < (n : Int) := by omega
    by_cases he : l[k]'hl.out = m[k]'hm.out
    ·have HE := hid he
     have b1 := str_ne_false (x := l[k]'hl.out)
     rw [← he] at kc
     clear he
     generalize ba (l[k]'hl.out) = x at hc kc b1
     go_wp2
     go_quiet (fail)
     go_wp2
     go_roundw
     case rel =>
      refine ⟨k + 1, by omega, by go_num, fun j hj hj' hjk => ?_, ?_⟩
      ·rcases Nat.lt_succ_iff_lt_or_eq.1 hjk with h | rfl
       ·exact HA.out j hj hj' h
       ·exact HE.out
      ·exact HB.out.trans ((below_drewN _ _).mono HB.out.size)
     case measure => simp [intOf]; omega
    ·have HE := hid he
     have b1 := str_ne_true he
     clear he
     generalize ba (l[k]'hl.out) = x at hc b1
     generalize ba (m[k]'hm.out) = y at kc b1
     go_wp2
     go_quiet (fail)
     go_wp2
     go_ret
     exact ⟨ret_bool (decide_eq_false fun e => HE.out (by subst e; rfl)).symm, HB.out.trans ((below_drewN _ _).mono HB.out.size)⟩
   ·go_wp2
    go_ret
    refine ⟨ret_bool (decide_eq_true (List.ext_getElem (by rw [← HN.out.1, ← HN.out.2]) fun j hj hj' => HA.out j hj hj' ?_)).symm, HB.out⟩
    have := HN.out.1
    omega
 ·have H : Hid (l ≠ m) := hid fun e => hlen (by rw [e])
  have hz : ¬ (l.length : Int) = (m.length : Int) := by omega
  go_enter Tryz.func32, Tryz.ntmps32
  go_wp2
  go_ret
  exact ⟨ret_bool (decide_eq_false H.out).symm, Below.refl _ _⟩
end
section
open Go.RowKit Go.Sort
open Nw Go.ChangeShapes Go.WideShapes
def BestIs (l : List L8) (k i : Nat) (bz : Int) : Prop :=
 (bz = -1 ∧ ∀ j (hj : j < l.length), j < i → ¬ cand l k l[j]) ∨
 (∃ b, ∃ hb : b < l.length, bz = b ∧ b < i ∧ cand l k l[b] ∧ ∀ j (hj : j < l.length), j < i → cand l k l[j] → l[b] ≤ l[j])
theorem BestIs.start (l : List L8) (k : Nat) : BestIs l k 0 (-1) := .inl ⟨rfl, fun j _ h => absurd h (Nat.not_lt_zero _)⟩
theorem BestIs.skip {l : List L8} {k i : Nat} {bz : Int} (h : BestIs l k i bz) (hi : i < l.length) (hn : ¬ cand l k l[i]) : BestIs l k (i + 1) bz := by
 rcases h with ⟨e, h⟩ | ⟨b, hb, e, hbi, hc, hmin⟩
 ·refine .inl ⟨e, fun j hj hji => ?_⟩
  rcases Nat.lt_succ_iff_lt_or_eq.1 hji with h1 | rfl
  ·exact h j hj h1
  ·exact hn
 ·refine .inr ⟨b, hb, e, by omega, hc, fun j hj hji hcj => ?_⟩
  rcases Nat.lt_succ_iff_lt_or_eq.1 hji with h1 | rfl
  ·exact hmin j hj h1 hcj
  ·exact absurd hcj hn
theorem BestIs.keep {l : List L8} {k i b : Nat} (hb : b < l.length) (h : BestIs l k i (b : Int)) (hi : i < l.length) (hn : ¬ l[i] < l[b]) : BestIs l k (i + 1) (b : Int) := by
 rcases h with ⟨e, _⟩ | ⟨b', hb', e, hbi, hc, hmin⟩
 ·omega
 ·obtain rfl : b = b' := by omega
  refine .inr ⟨b, hb, e, by omega, hc, fun j hj hji hcj => ?_⟩
  rcases Nat.lt_succ_iff_lt_or_eq.1 hji with h1 | rfl
  ·exact hmin j hj h1 hcj
  ·exact le_of_nlt hn
theorem BestIs.first {l : List L8} {k i : Nat} (h : BestIs l k i (-1)) (hi : i < l.length) (hc : cand l k l[i]) : BestIs l k (i + 1) (i : Int) := by
 rcases h with ⟨_, h⟩ | ⟨b, hb, e, _⟩
 ·refine .inr ⟨i, hi, rfl, by omega, hc, fun j hj hji hcj => ?_⟩
  rcases Nat.lt_succ_iff_lt_or_eq.1 hji with h1 | rfl
  ·exact absurd hcj (h j hj h1)
  ·exact List.le_refl _
 ·omega
theorem BestIs.less {l : List L8} {k i b : Nat} (hb : b < l.length) (h : BestIs l k i (b : Int)) (hi : i < l.length) (hc : cand l k l[i]) (hl : l[i] < l[b]) : BestIs l k (i + 1) (i : Int) := by
 rcases h with ⟨e, _⟩ | ⟨b', hb', e, hbi, hc', hmin⟩
 ·omega
 ·obtain rfl : b = b' := by omega
  refine .inr ⟨i, hi, rfl, by omega, hc, fun j hj hji hcj => ?_⟩
  rcases Nat.lt_succ_iff_lt_or_eq.1 hji with h1 | rfl
  ·exact List.le_trans (le_of_lt hl) (hmin j hj h1 hcj)
  ·exact List.le_refl _
theorem BestIs.done_none {l : List L8} {k : Nat} (hk : k ≤ (sortL l).length) (h : BestIs l k l.length (-1)) : k = (sortL l).length := by
 rcases h with ⟨_, h⟩ | ⟨b, hb, e, _⟩
 ·refine none_left hk fun y hy hc => ?_
  obtain ⟨j, hj, rfl⟩ := List.mem_iff_getElem.1 hy
  exact h j hj hj hc
 ·omega
theorem BestIs.done_some {l : List L8} {k b : Nat} (hk : k ≤ (sortL l).length) (hb : b < l.length) (h : BestIs l k l.length (b : Int)) : ∃ h : k < (sortL l).length, (sortL l)[k] = l[b] := by
 rcases h with ⟨e, _⟩ | ⟨b', hb', e, _, hc, hmin⟩
 ·omega
 ·obtain rfl : b = b' := by omega
  refine next_is hk (List.getElem_mem _) hc fun z hz hcz => ?_
  obtain ⟨j, hj, rfl⟩ := List.mem_iff_getElem.1 hz
  exact hmin j hj hj hcz
theorem BestIs.place {l : List L8} {k i : Nat} {bz : Int} (h : BestIs l k i bz) : bz = -1 ∨ ∃ b : Nat, bz = b ∧ b < l.length := by
 rcases h with ⟨e, _⟩ | ⟨b, hb, e, _⟩
 ·exact .inl e
 ·exact .inr ⟨b, e, hb⟩
theorem cand_zero (l : List L8) (y : L8) : cand l 0 y := .inl rfl
theorem cand_pos {l : List L8} {k : Nat} (hk : 0 < k) (hk' : k - 1 < (sortL l).length) (y : L8) : cand l k y ↔ (sortL l)[k - 1] < y := by
 unfold cand
 rw [List.getD_eq_getElem?_getD, List.getElem?_eq_getElem hk']
 exact ⟨fun h => by
  rcases h with h | h; · omega
  ·exact h, fun h => .inr h⟩
theorem owns_read {w : World} {base n : Nat} {e : TypeId} {v : Value} {l : List L8} (h : w.ownsRow base e 1 v n (l.map encStr)) :
  ∃ a cap, v = .slice a n cap ∧ n ≤ cap ∧ cap ≤ maxLen ∧ l.length = n ∧ (n = 0 ∨ ∃ g, a = some ⟨g, 0, none⟩ ∧ ∀ j (hj : j < l.length), w.cell? ⟨g, j, none⟩ = some (.string (ba l[j]))) := by
 have hl : l.length = n := by simpa using h.1
 have hc : ∀ (g len cap : Nat), v = .slice (some ⟨g, 0, none⟩) len cap → ∀ j (hj : j < l.length), w.cell? ⟨g, j, none⟩ = some (.string (ba l[j])) := fun g len cap hv j hj => by
  subst hv
  have := h.cells (g := g) rfl j (encStr l[j]) (by rw [List.getElem?_map, List.getElem?_eq_getElem hj]; rfl)
  rw [add_plain, Nat.zero_add] at this
  exact this
 rcases h.2 with ⟨e0, h0⟩ | ⟨g, cap, cur, hv, _, _, h1, h2, _⟩
 ·subst h0
  exact ⟨none, 0, e0, Nat.le_refl _, Nat.zero_le _, hl, .inl rfl⟩
 ·exact ⟨_, cap, hv, h1, h2, hl, .inr ⟨g, rfl, hc g n cap hv⟩⟩
theorem less_true {x y : L8} (h : x < y) : Op.bytesLess (ba x).toList (ba y).toList = true := by rw [ba_list, ba_list, bytesLess_eq]; exact decide_eq_true h
theorem less_false {x y : L8} (h : ¬ x < y) : Op.bytesLess (ba x).toList (ba y).toList = false := by rw [ba_list, ba_list, bytesLess_eq]; exact decide_eq_false h
theorem eq_true' {x y : L8} (h : x = y) : ((ba x).toList == (ba y).toList) = true := by rw [h]; exact beq_self_eq_true _
theorem eq_false' {x y : L8} (h : x ≠ y) : ((ba x).toList == (ba y).toList) = false := by rw [ba_list, ba_list]; exact beq_eq_false_iff_ne.2 h
end
end Go.Proofs.YtmdgpejedbkkdaaGreatDoor
namespace Go.Proofs
open Go.Shelf
def Tryz.lays190_ren : Go.Shelf.Ren := ⟨fun | 190 => 157 | 125 => 169 | 258 => 168 | 128 => 184 | 129 => 185 | 302 => 175 | 303 => 176 | 304 => 177 | 305 => 178 | 306 => 179 | 307 => 180 | 308 => 181 | 309 => 182 | 310 => 183 | 333 => 190 | 329 => 191 | 330 => 192 | 334 => 193 | 335 => 194 | 336 => 195 | 344 => 197 | n => n, fun | 31 => 22 | 9 => 9 | 3 => 3 | 46 => 91 | 0 => 0 | 51 => 140 | 53 => 167 | 4 => 4 | 183 => 160 | 182 => 159 | 131 => 94 | 5 => 5 | 218 => 168 | 222 => 81 | 228 => 174 | 229 => 100 | n => n, fun | n => n⟩
theorem Tryz.lays190 : Go.Proofs.Lays.n190 Tryz.prog Tryz.lays190_ren := {
 mixed := by kernel_rfl
 f125 := Tryz.func169.trans (congrArg some (by kernel_rfl))
 f128 := Tryz.func184.trans (congrArg some (by kernel_rfl))
 f129 := Tryz.func185.trans (congrArg some (by kernel_rfl))
 f190 := Tryz.func157.trans (congrArg some (by kernel_rfl))
 f258 := Tryz.func168.trans (congrArg some (by kernel_rfl))
 f302 := Tryz.func175.trans (congrArg some (by kernel_rfl))
 f303 := Tryz.func176.trans (congrArg some (by kernel_rfl))
 f304 := Tryz.func177.trans (congrArg some (by kernel_rfl))
 f305 := Tryz.func178.trans (congrArg some (by kernel_rfl))
 f306 := Tryz.func179.trans (congrArg some (by kernel_rfl))
 f307 := Tryz.func180.trans (congrArg some (by kernel_rfl))
 f308 := Tryz.func181.trans (congrArg some (by kernel_rfl))
 f309 := Tryz.func182.trans (congrArg some (by kernel_rfl))
 f310 := Tryz.func183.trans (congrArg some (by kernel_rfl))
 f329 := Tryz.func191.trans (congrArg some (by kernel_rfl))
 f330 := Tryz.func192.trans (congrArg some (by kernel_rfl))
 f333 := Tryz.func190.trans (congrArg some (by kernel_rfl))
 f334 := Tryz.func193.trans (congrArg some (by kernel_rfl))
 f335 := Tryz.func194.trans (congrArg some (by kernel_rfl))
 f336 := Tryz.func195.trans (congrArg some (by kernel_rfl))
 f344 := Tryz.func197.trans (congrArg some (by kernel_rfl))
 t0 := Tryz.underlying0
 a0 := Tryz.isAgg0
 z0 := Tryz.sizeOf0
 v0 := Tryz.zeroValue0
 t3 := Tryz.underlying3
 a3 := Tryz.isAgg3
 z3 := Tryz.sizeOf3
 v3 := Tryz.zeroValue3
 t4 := Tryz.underlying4
 a4 := Tryz.isAgg4
 z4 := Tryz.sizeOf4
 v4 := Tryz.zeroValue4
 t5 := Tryz.underlying5
 a5 := Tryz.isAgg5
 z5 := Tryz.sizeOf5
 v5 := Tryz.zeroValue5
 t9 := Tryz.underlying9
 a9 := Tryz.isAgg9
 z9 := Tryz.sizeOf9
 v9 := Tryz.zeroValue9
 t31 := Tryz.underlying22
 a31 := Tryz.isAgg22
 z31 := Tryz.sizeOf22
 v31 := Tryz.zeroValue22
 t46 := Tryz.underlying91
 a46 := Tryz.isAgg91
 z46 := Tryz.sizeOf91
 v46 := Tryz.zeroValue91
 t51 := Tryz.underlying140
 a51 := Tryz.isAgg140
 z51 := Tryz.sizeOf140
 v51 := Tryz.zeroValue140
 t53 := Tryz.underlying167
 a53 := Tryz.isAgg167
 z53 := Tryz.sizeOf167
 v53 := Tryz.zeroValue167
 t131 := Tryz.underlying94
 a131 := Tryz.isAgg94
 z131 := Tryz.sizeOf94
 v131 := Tryz.zeroValue94
 t182 := Tryz.underlying159
 a182 := Tryz.isAgg159
 z182 := Tryz.sizeOf159
 v182 := Tryz.zeroValue159
 t183 := Tryz.underlying160
 a183 := Tryz.isAgg160
 z183 := Tryz.sizeOf160
 v183 := Tryz.zeroValue160
 t218 := Tryz.underlying168
 a218 := Tryz.isAgg168
 z218 := Tryz.sizeOf168
 v218 := Tryz.zeroValue168
 t222 := Tryz.underlying81
 a222 := Tryz.isAgg81
 z222 := Tryz.sizeOf81
 v222 := Tryz.zeroValue81
 t228 := Tryz.underlying174
 a228 := Tryz.isAgg174
 z228 := Tryz.sizeOf174
 v228 := Tryz.zeroValue174
 t229 := Tryz.underlying100
 a229 := Tryz.isAgg100
 z229 := Tryz.sizeOf100
 v229 := Tryz.zeroValue100 }
open Go.Sort Go.RowKit in
theorem Tryz.slices_Sort_string (blk off cap : Nat) (ss : List (List UInt8)) (w : World) (hH : Holds encStr w blk off ss.toArray) (hblk : blk < w.heap.size) (hsz : ss.length < 4611686018427387904) :
  Calls Tryz.prog 157 #[.slice (some ⟨blk, off, none⟩) ss.length cap] w fun e w' =>
   e = .returned (.tuple #[]) ∧ ∃ n os, w' = grow (putRow encStr (Sort.ahead w n) blk off (ss.mergeSort fun x y => decide (x ≤ y)).toArray) os := Any.slices_Sort_string Tryz.lays190 blk off cap ss w hH hblk hsz
def Tryz.lays110_ren : Go.Shelf.Ren := ⟨fun | 110 => 131 | 109 => 140 | n => n, fun | 31 => 22 | 9 => 9 | 4 => 4 | 3 => 3 | 0 => 0 | n => n, fun | n => n⟩
theorem Tryz.lays110 : Go.Proofs.Lays.n110 Tryz.prog Tryz.lays110_ren := {
 mixed := by kernel_rfl
 f109 := Tryz.func140.trans (congrArg some (by kernel_rfl))
 f110 := Tryz.func131.trans (congrArg some (by kernel_rfl))
 t0 := Tryz.underlying0
 a0 := Tryz.isAgg0
 z0 := Tryz.sizeOf0
 v0 := Tryz.zeroValue0
 t3 := Tryz.underlying3
 a3 := Tryz.isAgg3
 z3 := Tryz.sizeOf3
 v3 := Tryz.zeroValue3
 t4 := Tryz.underlying4
 a4 := Tryz.isAgg4
 z4 := Tryz.sizeOf4
 v4 := Tryz.zeroValue4
 t9 := Tryz.underlying9
 a9 := Tryz.isAgg9
 z9 := Tryz.sizeOf9
 v9 := Tryz.zeroValue9
 t31 := Tryz.underlying22
 a31 := Tryz.isAgg22
 z31 := Tryz.sizeOf22
 v31 := Tryz.zeroValue22 }
open Go.Lib in
theorem Tryz.slices_Contains_string (b off n c : Nat) (zs : List ByteArray) (x : ByteArray) (w : World) (hz : n ≤ zs.length) (hbig : n ≤ 9223372036854775807) (hc : ∀ j, j < zs.length → w.cell? ⟨b, off + j, none⟩ = some (.string (zs.getD j ByteArray.empty))) :
  Calls Tryz.prog 131 #[.slice (some ⟨b, off, none⟩) n c, .string x] w fun e w' => e = .returned (.bool (Lib.containsS (zs.take n) x)) ∧ w' = w := Any.slices_Contains_string Tryz.lays110 b off n c zs x w hz hbig hc
open Go.Lib in
theorem Tryz.slices_Contains_string_empty (a : Option Addr) (c : Nat) (x : ByteArray) (w : World) :
  Calls Tryz.prog 131 #[.slice a 0 c, .string x] w fun e w' => e = .returned (.bool false) ∧ w' = w := Any.slices_Contains_string_empty Tryz.lays110 a c x w
def Tryz.lays194_ren : Go.Shelf.Ren := ⟨fun | 194 => 158 | n => n, fun | 31 => 22 | 9 => 9 | 3 => 3 | 4 => 4 | 0 => 0 | n => n, fun | n => n⟩
theorem Tryz.lays194 : Go.Proofs.Lays.n194 Tryz.prog Tryz.lays194_ren := {
 mixed := by kernel_rfl
 f194 := Tryz.func158.trans (congrArg some (by kernel_rfl))
 t0 := Tryz.underlying0
 a0 := Tryz.isAgg0
 z0 := Tryz.sizeOf0
 v0 := Tryz.zeroValue0
 t3 := Tryz.underlying3
 a3 := Tryz.isAgg3
 z3 := Tryz.sizeOf3
 v3 := Tryz.zeroValue3
 t4 := Tryz.underlying4
 a4 := Tryz.isAgg4
 z4 := Tryz.sizeOf4
 v4 := Tryz.zeroValue4
 t9 := Tryz.underlying9
 a9 := Tryz.isAgg9
 z9 := Tryz.sizeOf9
 v9 := Tryz.zeroValue9
 t31 := Tryz.underlying22
 a31 := Tryz.isAgg22
 z31 := Tryz.sizeOf22
 v31 := Tryz.zeroValue22 }
open Go.RowKit Go.Lib Go.Sort in
theorem Tryz.slices_Compact_string (blk off cap : Nat) (zs : List (List UInt8)) (w : World) (hH : Holds encStr w blk off zs.toArray) (hsz : zs.length ≤ 9223372036854775807) (hcap : zs.length ≤ cap) :
  Calls Tryz.prog 158 #[.slice (some ⟨blk, off, none⟩) zs.length cap] w fun e w' => e = .returned (.slice (some ⟨blk, off, none⟩) (Lib.compact zs).length cap) ∧ ∃ q, w' = putRow encStr (Sort.ahead w q) blk off (Lib.compact zs ++ List.replicate (zs.length - (Lib.compact zs).length) []).toArray := Any.slices_Compact_string Tryz.lays194 blk off cap zs w hH hsz hcap
open Go.RowKit Go.Lib Go.Sort in
theorem Tryz.slices_Compact_string_empty (a : Option Addr) (cap : Nat) (w : World) :
  Calls Tryz.prog 158 #[.slice a 0 cap] w fun e w' => e = .returned (.slice a 0 cap) ∧ w' = w := Any.slices_Compact_string_empty Tryz.lays194 a cap w
open Go.RowKit Go.Sort in
theorem Tryz.slices_Sort_string_none (p : Option Addr) (cap : Nat) (w : World) :
  Calls Tryz.prog 157 #[.slice p 0 cap] w fun e w' => e = .returned (.tuple #[]) ∧ w' = w := Any.slices_Sort_string_none Tryz.lays190 p cap w
def Tryz.lays8n4_ren : Go.Shelf.Ren := ⟨fun | 4 => 159 | n => n, fun | 22 => 22 | 25 => 9 | 3 => 3 | 4 => 4 | 9 => 9 | 20 => 20 | 0 => 0 | n => n, fun | n => n⟩
theorem Tryz.lays8n4 : Go.Proofs.Lays8.n4 Tryz.prog Tryz.lays8n4_ren := {
 mixed := by kernel_rfl
 f4 := ⟨Tryz.f159.name, by decide, Tryz.func159.trans (congrArg some (by kernel_rfl))⟩
 t0 := Tryz.underlying0
 a0 := Tryz.isAgg0
 z0 := Tryz.sizeOf0
 v0 := Tryz.zeroValue0
 t3 := Tryz.underlying3
 a3 := Tryz.isAgg3
 z3 := Tryz.sizeOf3
 v3 := Tryz.zeroValue3
 t4 := Tryz.underlying4
 a4 := Tryz.isAgg4
 z4 := Tryz.sizeOf4
 v4 := Tryz.zeroValue4
 t9 := Tryz.underlying9
 a9 := Tryz.isAgg9
 z9 := Tryz.sizeOf9
 v9 := Tryz.zeroValue9
 t20 := Tryz.underlying20
 a20 := Tryz.isAgg20
 z20 := Tryz.sizeOf20
 v20 := Tryz.zeroValue20
 t22 := Tryz.underlying22
 a22 := Tryz.isAgg22
 z22 := Tryz.sizeOf22
 v22 := Tryz.zeroValue22 }
open Go.RowKit in
theorem Tryz.slices_Grow_room (base : Option Addr) (l c n : Nat) (w : World) (hlc : l ≤ c) (hc63 : c ≤ 9223372036854775807) (hn63 : n ≤ 9223372036854775807) (hroom : l + n ≤ c) :
  Calls Tryz.prog 159 #[.slice base l c, .int .i64 n] w fun e w' => e = .returned (.slice base l c) ∧ w' = w := Any8.slices_Grow_room Tryz.lays8n4 base l c n w hlc hc63 hn63 hroom
open Go.RowKit Go.Lib in
theorem Tryz.slices_Grow_grow (i0 : TypeInfo) (z : Value) (hi0 : Tryz.prog.info? 9 = some i0) (hz0 : i0.zero = some z) (hs0 : 0 < i0.size)
  (base : Option Addr) (l c n : Nat) (cs : List Value) (w : World) (hlc : l ≤ c) (hroom : c < l + n) (hbig : (l + n) * i0.bytes ≤ 140737488355328) (h63 : l + n ≤ 4611686018427387904)
  (hcl : cs.length = c * i0.size) (hnil : base = none → c = 0) (hcs : ∀ a, base = some a → ∀ j v, cs[j]? = some v → w.cell? (a.add j) = some v) :
  Calls Tryz.prog 159 #[.slice base l c, .int .i64 n] w fun e w' =>
   e = .returned (.slice (some ⟨w.heap.size, 0, none⟩) l (grownCap w (l + n) c 9)) ∧
   w' = w.drew.alloc (.cells (cs.toArray ++ Builtin.zeroCells z.cells (l + n - c) ++ Builtin.zeroCells z.cells (grownCap w (l + n) c 9 - (l + n))) 9) := Any8.slices_Grow_grow Tryz.lays8n4 i0 z hi0 hz0 hs0 base l c n cs w hlc hroom hbig h63 hcl hnil hcs
end Go.Proofs
namespace Go.Proofs.YtmdgpejedbkkdaaGreatDoor
section
open Go.RowKit Go.Sort
open Nw
theorem containsS_mem (l : List L8) (s : ByteArray) : Lib.containsS ((l.map ba).take l.length) s = decide (s.data.toList ∈ l) := by
 rw [List.take_of_length_le (by simp)]
 rw [Bool.eq_iff_iff, Lib.containsS_iff, decide_eq_true_eq]
 constructor
 ·intro h
  obtain ⟨x, hx, rfl⟩ := List.mem_map.1 h
  rwa [ba_data]
 ·intro h; exact List.mem_map.2 ⟨_, h, ba_of s⟩
theorem In_any (v : Value) (l : List L8) (s : ByteArray) (w : World) (h : Rd w v l) :
  Calls Tryz.prog 109 #[v, .string s] w fun e w' => e = .returned (.bool (decide (s.data.toList ∈ l))) ∧ w = w' := by
 rcases h.cases with ⟨a, cap, rfl, rfl, _⟩ | ⟨b, o, cap, rfl, h1, h2, h3, h4⟩
 ·have hcon := Tryz.slices_Contains_string_empty a cap s w
  go_enter Tryz.func109, Tryz.ntmps109
  go_wp2_with (go_at_call 131; refine hcon.mono ?_; rintro e w' ⟨rfl, rfl⟩)
  go_ret
  exact ⟨ret_bool (by simp), rfl⟩
 ·have hcon := Tryz.slices_Contains_string b o l.length cap (l.map ba) s w (by simp) (by unfold maxLen at h2; omega) (fun j hj => by rw [map_ba l j hj]; exact h4 j (by simpa using hj))
  rw [containsS_mem] at hcon
  clear h h4
  generalize decide (s.data.toList ∈ l) = r at hcon ⊢
  go_enter Tryz.func109, Tryz.ntmps109
  go_wp2_with (go_at_call 131; refine hcon.mono ?_; rintro e w' ⟨rfl, rfl⟩)
  go_ret
  exact ⟨rfl, rfl⟩
end
end Go.Proofs.YtmdgpejedbkkdaaGreatDoor
