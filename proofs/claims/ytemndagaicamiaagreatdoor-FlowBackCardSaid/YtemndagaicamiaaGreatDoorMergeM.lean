/- Plain mathematics of lists of strings: the sorted list, its uniqueness, and what the two ways of making it come to. Nodes as trees; what the document says of them, as functions on trees. Plain mathematics of maps whose keys stand once: what is put and dropped. Flow values as functions on lists of bytes: how they are parsed, how they are written. That parsing undoes the writing of flow values. Parsing undoes the writing, at any valid node; what is parsed has the form of a node; bounds. What a parsed value has: the form of a node; how long it is written. What is written of a row of nodes, step by step. What a flow parser answers. The scan of a quoted text reads no further than its end. The steps of the flow parser, at places of a whole text. A flow parser that keeps its open collections in a list: what it answers is what the grammar says. How the reader goes on: what is still to come, whether a key stands twice, how much is left. -/
import Derived.Test.YtemndagaicamiaaGreatDoorRows
import Derived.Lib.SlicesCompact
import Derived.Shelf.Spec.SearchS
import Derived.Sort.Walk0
import Derived.Test.YtemndagaicamiaaGreatDoorMergeQ
import Derived.Lib.TrimByte
namespace Go.Proofs.YtemndagaicamiaaGreatDoor
namespace Nw

abbrev L8 := List UInt8
/-- Strictly ascending. -/
def Asc (l : List L8) : Prop := l.Pairwise (· < ·)
def leB (x y : L8) : Bool := decide (x ≤ y)
def sortL (l : List L8) : List L8 := Lib.compact (l.mergeSort fun x y => decide (x ≤ y))

theorem lt_irr (x : L8) : ¬ x < x := List.lt_irrefl x
theorem lt_tr {x y z : L8} (h : x < y) (k : y < z) : x < z := List.lt_trans h k
theorem le_of_nlt {x y : L8} (h : ¬ x < y) : y ≤ x := List.not_lt.1 h
theorem lt_of_le_ne {x y : L8} (h : x ≤ y) (k : x ≠ y) : x < y := by
  rcases Classical.em (x < y) with h1 | h1
  · exact h1
  · exact absurd (List.le_antisymm h (le_of_nlt h1)) k
theorem le_of_lt {x y : L8} (h : x < y) : x ≤ y := List.le_of_lt h

theorem asc_unique : ∀ {a b : List L8}, Asc a → Asc b → (∀ x, x ∈ a ↔ x ∈ b) → a = b
  | [], [], _, _, _ => rfl
  | [], y :: b, _, _, h => absurd ((h y).2 List.mem_cons_self) List.not_mem_nil
  | x :: a, [], _, _, h => absurd ((h x).1 List.mem_cons_self) List.not_mem_nil
  | x :: a, y :: b, ha, hb, h => by
    have ha' := List.pairwise_cons.1 ha
    have hb' := List.pairwise_cons.1 hb
    have e : x = y := by
      rcases List.mem_cons.1 ((h x).1 List.mem_cons_self) with e | e
      · exact e
      · rcases List.mem_cons.1 ((h y).2 List.mem_cons_self) with e2 | e2
        · exact e2.symm
        · exact absurd (lt_tr (hb'.1 x e) (ha'.1 y e2)) (lt_irr _)
    subst e
    rw [asc_unique ha'.2 hb'.2 fun z => ⟨fun hz => ?_, fun hz => ?_⟩]
    · rcases List.mem_cons.1 ((h z).1 (List.mem_cons_of_mem _ hz)) with e | e
      · subst e; exact absurd (ha'.1 _ hz) (lt_irr _)
      · exact e
    · rcases List.mem_cons.1 ((h z).2 (List.mem_cons_of_mem _ hz)) with e | e
      · subst e; exact absurd (hb'.1 _ hz) (lt_irr _)
      · exact e

theorem compactUpTo_facts (d : Array L8) (hd : ∀ i j, i < j → j < d.size → d[i]! ≤ d[j]!) : ∀ m, m ≤ d.size → Asc (Lib.compactUpTo d m) ∧ ∀ x, x ∈ Lib.compactUpTo d m ↔ ∃ j, j < m ∧ d[j]! = x
  | 0, _ => by
    refine ⟨by simp [Lib.compactUpTo, Asc], fun x => ?_⟩
    simp [Lib.compactUpTo]
  | m + 1, hm => by
    obtain ⟨ih1, ih2⟩ := compactUpTo_facts d hd m (by omega)
    rw [Lib.compactUpTo_succ]
    by_cases hk : Lib.keeps d m = true
    · rw [if_pos hk]
      constructor
      · unfold Asc at ih1 ⊢
        rw [List.pairwise_append]
        refine ⟨ih1, by simp, fun x hx y hy => ?_⟩
        obtain ⟨j, hj, rfl⟩ := (ih2 x).1 hx
        obtain rfl : y = d[m]! := by simpa using hy
        have hkk : m = 0 ∨ d[m]! ≠ d[m - 1]! := by unfold Lib.keeps at hk; exact of_decide_eq_true hk
        rcases hkk with h0 | h0
        · omega
        · have h1 : d[j]! ≤ d[m - 1]! := by
            rcases Nat.lt_or_ge j (m - 1) with h2 | h2
            · exact hd j (m - 1) h2 (by omega)
            · obtain rfl : j = m - 1 := by omega
              exact List.le_refl _
          have h2 : d[m - 1]! < d[m]! := lt_of_le_ne (hd (m - 1) m (by omega) (by omega)) (fun e => h0 e.symm)
          exact List.lt_of_le_of_lt h1 h2
      · intro x
        rw [List.mem_append, ih2 x]
        constructor
        · rintro (⟨j, hj, rfl⟩ | h)
          · exact ⟨j, by omega, rfl⟩
          · obtain rfl : x = d[m]! := by simpa using h
            exact ⟨m, by omega, rfl⟩
        · rintro ⟨j, hj, rfl⟩
          rcases Nat.lt_or_ge j m with h | h
          · exact .inl ⟨j, h, rfl⟩
          · obtain rfl : j = m := by omega
            exact .inr (by simp)
    · rw [if_neg hk, List.append_nil]
      have hkk : ¬ (m = 0 ∨ d[m]! ≠ d[m - 1]!) := by unfold Lib.keeps at hk; exact fun h => hk (decide_eq_true h)
      have h0 : m ≠ 0 := fun e => hkk (.inl e)
      have h1 : d[m]! = d[m - 1]! := Classical.byContradiction fun e => hkk (.inr e)
      refine ⟨ih1, fun x => ?_⟩
      rw [ih2 x]
      constructor
      · rintro ⟨j, hj, rfl⟩; exact ⟨j, by omega, rfl⟩
      · rintro ⟨j, hj, rfl⟩
        rcases Nat.lt_or_ge j m with h | h
        · exact ⟨j, h, rfl⟩
        · obtain rfl : j = m := by omega
          exact ⟨j - 1, by omega, h1.symm⟩

theorem ms_sorted (l : List L8) : (l.mergeSort fun x y => decide (x ≤ y)).Pairwise (· ≤ ·) := by
  have := List.pairwise_mergeSort (le := fun (x y : L8) => decide (x ≤ y)) (fun a b c h k => decide_eq_true (List.le_trans (of_decide_eq_true h) (of_decide_eq_true k))) (fun a b => by
    rcases List.le_total a b with h | h
    · simp [h]
    · simp [h]) l
  exact this.imp fun h => of_decide_eq_true h

theorem sortL_facts (l : List L8) : Asc (sortL l) ∧ ∀ x, x ∈ sortL l ↔ x ∈ l := by
  have hs := ms_sorted l
  generalize hm : (l.mergeSort fun x y => decide (x ≤ y)) = m at hs
  have hp : m.Perm l := hm ▸ List.mergeSort_perm l _
  have hd : ∀ i j, i < j → j < m.toArray.size → m.toArray[i]! ≤ m.toArray[j]! := fun i j hij hj => by
    have hj' : j < m.length := by simpa using hj
    have := List.pairwise_iff_getElem.1 hs i j (by omega) hj' hij
    rw [getElem!_pos m.toArray i (by simp; omega), getElem!_pos m.toArray j (by simpa using hj')]
    simpa using this
  obtain ⟨h1, h2⟩ := compactUpTo_facts m.toArray hd m.length (by simp)
  have e : sortL l = Lib.compactUpTo m.toArray m.length := by unfold sortL; rw [hm]; rfl
  rw [e]
  refine ⟨h1, fun x => ?_⟩
  rw [h2 x, ← hp.mem_iff]
  constructor
  · rintro ⟨j, hj, rfl⟩
    rw [getElem!_pos m.toArray j (by simpa using hj)]; simp
  · intro hx
    obtain ⟨j, hj, rfl⟩ := List.mem_iff_getElem.1 hx
    exact ⟨j, hj, by rw [getElem!_pos m.toArray j (by simpa using hj)]; simp⟩

theorem sortL_asc (l : List L8) : Asc (sortL l) := (sortL_facts l).1
theorem mem_sortL {l : List L8} {x : L8} : x ∈ sortL l ↔ x ∈ l := (sortL_facts l).2 x
theorem sortL_eq {l S : List L8} (h : Asc S) (hm : ∀ x, x ∈ S ↔ x ∈ l) : sortL l = S := asc_unique (sortL_asc l) h fun x => by rw [mem_sortL, hm]
theorem sortL_sortL (l : List L8) : sortL (sortL l) = sortL l := sortL_eq (sortL_asc l) fun _ => Iff.rfl
theorem sortL_comm (a b : List L8) : sortL (b ++ a) = sortL (a ++ b) := sortL_eq (sortL_asc _) fun x => by rw [mem_sortL]; simp [or_comm]
theorem sortL_nil : sortL [] = [] := asc_unique (sortL_asc []) List.Pairwise.nil fun x => by rw [mem_sortL]
theorem asc_filter {l : List L8} (p : L8 → Bool) (h : Asc l) : Asc (l.filter p) := List.Pairwise.filter p h
theorem asc_get {S : List L8} (h : Asc S) {i j : Nat} (hij : i < j) (hj : j < S.length) : S[i] < S[j] := List.pairwise_iff_getElem.1 h i j (by omega) hj hij
theorem asc_le {S : List L8} (h : Asc S) {i j : Nat} (hij : i ≤ j) (hj : j < S.length) : S[i] ≤ S[j] := by
  rcases Nat.lt_or_eq_of_le hij with h1 | rfl
  · exact le_of_lt (asc_get h h1 hj)
  · exact List.le_refl _

theorem sortL_length_le (l : List L8) : (sortL l).length ≤ l.length := by
  have : (Lib.compact (l.mergeSort fun x y => decide (x ≤ y))).length ≤ (l.mergeSort fun x y => decide (x ≤ y)).length := by
    unfold Lib.compact Lib.compactUpTo
    rw [List.length_map]
    exact Nat.le_trans (List.length_filter_le _ _) (by simp)
  rwa [List.length_mergeSort] at this

/-- The lists' sizes: what is in both, without the first's own. -/
theorem count_eq (a b : List L8) : (sortL (a ++ b)).length = ((sortL a).filter fun x => !decide (x ∈ b)).length + (sortL b).length := by
  have e1 : (sortL a).filter (fun x => !decide (x ∈ b)) = (sortL (a ++ b)).filter (fun x => !decide (x ∈ b)) := by
    refine asc_unique (asc_filter _ (sortL_asc _)) (asc_filter _ (sortL_asc _)) fun x => ?_
    rw [List.mem_filter, List.mem_filter, mem_sortL, mem_sortL]
    simp only [List.mem_append, Bool.not_eq_true', decide_eq_false_iff_not]
    constructor
    · rintro ⟨h, k⟩; exact ⟨.inl h, k⟩
    · rintro ⟨h | h, k⟩
      · exact ⟨h, k⟩
      · exact absurd h k
  have e2 : sortL b = (sortL (a ++ b)).filter (fun x => decide (x ∈ b)) := by
    refine asc_unique (sortL_asc _) (asc_filter _ (sortL_asc _)) fun x => ?_
    rw [List.mem_filter, mem_sortL, mem_sortL]
    simp only [List.mem_append, decide_eq_true_eq]
    constructor
    · intro h; exact ⟨.inr h, h⟩
    · rintro ⟨_, h⟩; exact h
  rw [e1]
  conv => rhs; rw [e2]
  have : ∀ S : List L8, S.length = (S.filter fun x => !decide (x ∈ b)).length + (S.filter fun x => decide (x ∈ b)).length := by
    intro S
    induction S with
    | nil => rfl
    | cons x S ih => by_cases h : x ∈ b <;> simp [h] at ih ⊢ <;> omega
  exact this _

/-- Where x stands, or would stand, in an ascending list. -/
theorem place (x : L8) : ∀ {S : List L8}, Asc S → ∃ k, k ≤ S.length ∧ (∀ t (h : t < S.length), t < k → S[t] < x) ∧ (∀ t (h : t < S.length), k ≤ t → ¬ S[t] < x)
  | [], _ => ⟨0, Nat.le_refl _, fun t h => absurd h (Nat.not_lt_zero _), fun t h => absurd h (Nat.not_lt_zero _)⟩
  | y :: S, hS => by
    have hS' := List.pairwise_cons.1 hS
    by_cases hy : y < x
    · obtain ⟨k, hk, h1, h2⟩ := place x hS'.2
      refine ⟨k + 1, by simpa using hk, fun t h ht => ?_, fun t h ht => ?_⟩
      · cases t with
        | zero => exact hy
        | succ t => exact h1 t (by simpa using h) (by omega)
      · cases t with
        | zero => omega
        | succ t => exact h2 t (by simpa using h) (by omega)
    · refine ⟨0, Nat.zero_le _, fun t h ht => absurd ht (Nat.not_lt_zero _), fun t h ht hlt => ?_⟩
      cases t with
      | zero => exact hy hlt
      | succ t => exact hy (lt_tr (hS'.1 _ (List.getElem_mem _)) hlt)

/-- The halving finds x just where it is in the list. -/
theorem found {S : List L8} (hS : Asc S) (x : ByteArray) (Sx : Nat → ByteArray) (hSx : ∀ t (h : t < S.length), Sx t = ⟨S[t].toArray⟩) (hout : ∀ t, S.length ≤ t → Sx t = x) :
    decide (Lib.bsGo (fun t => Op.bytesLess (Sx t).toList x.toList) S.length 0 S.length < S.length ∧ Sx (Lib.bsGo (fun t => Op.bytesLess (Sx t).toList x.toList) S.length 0 S.length) = x) = decide (x.data.toList ∈ S) := by
  obtain ⟨k, hk, h1, h2⟩ := place x.data.toList hS
  have ev : ∀ t, Op.bytesLess (Sx t).toList x.toList = decide ((Sx t).data.toList < x.data.toList) := fun t => by rw [bytesLess_eq, ByteArray.toList_eq, ByteArray.toList_eq]
  have e : Lib.bsGo (fun t => Op.bytesLess (Sx t).toList x.toList) S.length 0 S.length = k := by
    refine Lib.bsGo_spec _ k (fun t ht => ?_) (fun t ht => ?_) _ _ _ (by omega) (Nat.zero_le _) hk
    · show Op.bytesLess (Sx t).toList x.toList = true
      rw [ev, hSx t (by omega)]
      exact decide_eq_true (by simpa using h1 t (by omega) ht)
    · show Op.bytesLess (Sx t).toList x.toList = false
      rw [ev]
      rcases Nat.lt_or_ge t S.length with h | h
      · rw [hSx t h]; exact decide_eq_false (by simpa using h2 t h ht)
      · rw [hout t h]; exact decide_eq_false (lt_irr _)
  rw [e]
  refine decide_eq_decide.2 ⟨fun ⟨h, hx⟩ => ?_, fun h => ?_⟩
  · rw [hSx k h] at hx
    rw [← hx]; simp
  · obtain ⟨m, hm, hx⟩ := List.mem_iff_getElem.1 h
    have hkm : k ≤ m := Nat.le_of_not_lt fun hl => by have := h1 m hm hl; rw [hx] at this; exact lt_irr _ this
    have hmk : k = m := by
      rcases Nat.lt_or_eq_of_le hkm with h3 | h3
      · have := asc_get hS h3 hm
        rw [hx] at this
        exact absurd this (h2 k (by omega) (Nat.le_refl _))
      · exact h3
    subst hmk
    exact ⟨hm, by rw [hSx k hm, hx]⟩

/-- The selection of the next one: y is in l, above the k taken ones, and the least such. -/
def cand (l : List L8) (k : Nat) (y : L8) : Prop := k = 0 ∨ (sortL l).getD (k - 1) [] < y

theorem cand_mem {l : List L8} {k : Nat} (hk : k ≤ (sortL l).length) {y : L8} (hy : y ∈ l) (hc : cand l k y) : ∃ m, ∃ h : m < (sortL l).length, k ≤ m ∧ (sortL l)[m] = y := by
  obtain ⟨m, hm, rfl⟩ := List.mem_iff_getElem.1 (mem_sortL.2 hy)
  refine ⟨m, hm, ?_, rfl⟩
  rcases hc with h0 | h0
  · omega
  · refine Nat.le_of_not_lt fun hl => ?_
    rw [List.getD_eq_getElem?_getD, List.getElem?_eq_getElem (by omega)] at h0
    have h1 := asc_le (sortL_asc l) (show m ≤ k - 1 by omega) (by omega)
    exact lt_irr _ (List.lt_of_le_of_lt h1 h0)

theorem cand_next {l : List L8} {k : Nat} (hk : k < (sortL l).length) : (sortL l)[k] ∈ l ∧ cand l k (sortL l)[k] := by
  refine ⟨mem_sortL.1 (List.getElem_mem _), ?_⟩
  rcases Nat.eq_zero_or_pos k with h | h
  · exact .inl h
  · refine .inr ?_
    rw [List.getD_eq_getElem?_getD, List.getElem?_eq_getElem (by omega)]
    exact asc_get (sortL_asc l) (by omega) hk

theorem none_left {l : List L8} {k : Nat} (hk : k ≤ (sortL l).length) (h : ∀ y ∈ l, ¬ cand l k y) : k = (sortL l).length := by
  refine Nat.le_antisymm hk (Nat.le_of_not_lt fun hl => ?_)
  obtain ⟨h1, h2⟩ := cand_next hl
  exact h _ h1 h2

theorem next_is {l : List L8} {k : Nat} (hk : k ≤ (sortL l).length) {y : L8} (hy : y ∈ l) (hc : cand l k y) (hmin : ∀ z ∈ l, cand l k z → y ≤ z) : ∃ h : k < (sortL l).length, (sortL l)[k] = y := by
  obtain ⟨m, hm, hkm, rfl⟩ := cand_mem hk hy hc
  have hk' : k < (sortL l).length := by omega
  refine ⟨hk', ?_⟩
  obtain ⟨h1, h2⟩ := cand_next hk'
  exact List.le_antisymm (asc_le (sortL_asc l) hkm hm) (hmin _ h1 h2)

end Nw
end Go.Proofs.YtemndagaicamiaaGreatDoor
namespace Go.Proofs.YtemndagaicamiaaGreatDoor
namespace N8
open Nw
set_option linter.unusedVariables false
/-- A node: its kind, its text, its keys, its kids. -/
inductive Nd where
  | mk (kind : Int) (text : L8) (keys : List L8) (kids : List Nd)
def Nd.kind : Nd → Int | .mk k _ _ _ => k
def Nd.text : Nd → L8 | .mk _ t _ _ => t
def Nd.keys : Nd → List L8 | .mk _ _ ks _ => ks
def Nd.kids : Nd → List Nd | .mk _ _ _ ds => ds
theorem Nd.eta (d : Nd) : Nd.mk d.kind d.text d.keys d.kids = d := by cases d; rfl
/-- Nothing. -/
def nul : Nd := .mk 0 [] [] []
mutual
/-- How many nodes there are. -/
def cntT : Nd → Nat
  | .mk _ _ _ ds => 1 + cntL ds
def cntL : List Nd → Nat
  | [] => 0
  | d :: ds => cntT d + cntL ds
end
mutual
/-- How deep the nodes are nested. -/
def depT : Nd → Nat
  | .mk _ _ _ ds => 1 + depL ds
def depL : List Nd → Nat
  | [] => 0
  | d :: ds => max (depT d) (depL ds)
end
mutual
/-- Are both the same? -/
def sameT : Nd → Nd → Bool
  | .mk k t ks ds, .mk k' t' ks' ds' => decide (k = k') && decide (t = t') && decide (ks = ks') && sameL ds ds'
def sameL : List Nd → List Nd → Bool
  | [], [] => true
  | d :: ds, e :: es => sameT d e && sameL ds es
  | [], _ :: _ => false
  | _ :: _, [] => false
end
mutual
/-- Are all texts and keys short? -/
def shortT : Nd → Bool
  | .mk _ t ks ds => decide (t.length ≤ 200) && (ks.all fun k => decide (k.length ≤ 200)) && shortL ds
def shortL : List Nd → Bool
  | [] => true
  | d :: ds => shortT d && shortL ds
end
/-- The form of a node without its kids. -/
def formB (k : Int) (t : L8) (ks : List L8) (n : Nat) : Bool :=
  !(decide (k ≠ 1) && decide (0 < t.length)) && !(decide (k ≠ 3) && decide (0 < ks.length)) && !(decide (k < 2) && decide (0 < n))
/-- The keys of a map: as many as kids, none twice. -/
def keysB (k : Int) (ks : List L8) (n : Nat) (left : Int) : Bool :=
  !(decide (k = 3) && (decide (ks.length ≠ n) || decide (left < (n : Int)) || decide ((sortL ks).length ≠ ks.length)))
mutual
/-- How many nodes may still be met behind this one; below 0: it is not valid. -/
def leftT : Nd → Int → Int → Int
  | .mk k t ks ds, deep, left =>
    if left - 1 < 0 ∨ 12 < deep ∨ k < 0 ∨ 3 < k then -1
    else if formB k t ks ds.length = false then -1
    else if keysB k ks ds.length (left - 1) = false then -1
    else leftL ds (deep + 1) (left - 1)
def leftL : List Nd → Int → Int → Int
  | [], _, left => left
  | d :: ds, deep, left => if leftT d deep left < 0 then -1 else leftL ds deep (leftT d deep left)
end
/-- Valid, of at most so many nodes. -/
def okT (most : Int) (d : Nd) : Bool := decide (0 ≤ leftT d 1 most)
def smallT (d : Nd) (most : Int) : Bool := okT most d && shortT d
/-- What stands by a key. -/
def getK : List L8 → List Nd → L8 → Option Nd
  | k :: ks, d :: ds, x => if k = x then some d else getK ks ds x
  | _, _, _ => none
def getT (d : Nd) (x : L8) : Option Nd := if d.kind = 3 then getK d.keys d.kids x else none
/-- The kids with v by the key x; what is left of keys and kids without x. -/
def putK : List L8 → List Nd → L8 → Nd → List Nd
  | k :: ks, d :: ds, x, v => (if k = x then v else d) :: putK ks ds x v
  | _, _, _, _ => []
def dropK : List L8 → List Nd → L8 → List Nd
  | k :: ks, d :: ds, x => if k = x then dropK ks ds x else d :: dropK ks ds x
  | _, _, _ => []
def withT (d : Nd) (x : L8) (v : Nd) : Nd :=
  if d.kind ≠ 0 ∧ d.kind ≠ 3 then d
  else .mk 3 [] (d.keys ++ if x ∈ d.keys then [] else [x]) (putK d.keys d.kids x v ++ if x ∈ d.keys then [] else [v])
def lessT (d : Nd) (x : L8) : Nd :=
  if d.kind ≠ 3 then d else .mk 3 [] (d.keys.filter fun k => decide (k ≠ x)) (dropK d.keys d.kids x)
mutual
/-- All texts, in order. -/
def textsT : Nd → List L8
  | .mk k t _ ds => (if k = 1 then [t] else []) ++ textsL ds
def textsL : List Nd → List L8
  | [] => []
  | d :: ds => textsT d ++ textsL ds
end
mutual
/-- With the keys of all maps in order. -/
def sortT : Nd → Nd
  | .mk k t ks ds => if k = 3 then .mk k t (sortL ks) ((sortL ks).map fun x => (getK ks (sortDs ds) x).getD nul) else .mk k t [] (sortDs ds)
def sortDs : List Nd → List Nd
  | [] => []
  | d :: ds => sortT d :: sortDs ds
end
/- ### Of counts and sizes. -/
theorem cntT_pos (d : Nd) : 1 ≤ cntT d := by cases d; unfold cntT; omega
theorem cntL_mem : ∀ {ds : List Nd} {d : Nd}, d ∈ ds → cntT d ≤ cntL ds
  | e :: ds, d, h => by
    unfold cntL
    rcases List.mem_cons.1 h with rfl | h
    · omega
    · have := cntL_mem h; omega
theorem cntL_len : ∀ (ds : List Nd), ds.length ≤ cntL ds
  | [] => Nat.zero_le _
  | d :: ds => by
    unfold cntL
    have := cntL_len ds
    have := cntT_pos d
    rw [List.length_cons]; omega
theorem cntL_app : ∀ (a b : List Nd), cntL (a ++ b) = cntL a + cntL b
  | [], b => by simp [cntL]
  | d :: a, b => by
    rw [List.cons_append, cntL, cntL, cntL_app a b]; omega
theorem cntL_take_succ {ds : List Nd} {k : Nat} (h : k < ds.length) : cntL (ds.take (k + 1)) = cntL (ds.take k) + cntT (ds[k]'h) := by
  rw [List.take_succ_eq_append_getElem h, cntL_app]
  rfl
theorem cntL_take_le (ds : List Nd) (k : Nat) : cntL (ds.take k) ≤ cntL ds := by
  have := cntL_app (ds.take k) (ds.drop k)
  rw [List.take_append_drop] at this
  omega
theorem depL_take_succ {ds : List Nd} {k : Nat} (h : k < ds.length) : depL (ds.take (k + 1)) = max (depL (ds.take k)) (depT (ds[k]'h)) := by
  induction ds generalizing k with
  | nil => cases h
  | cons d ds ih =>
    cases k with
    | zero => show max (depT d) 0 = max 0 (depT d); omega
    | succ k =>
      rw [List.take_succ_cons, List.take_succ_cons, depL, depL, ih (Nat.lt_of_succ_lt_succ h)]
      rw [List.getElem_cons_succ]; omega
theorem depT_cnt (n : Nat) : ∀ (d : Nd), cntT d ≤ n → depT d ≤ cntT d := by
  induction n with
  | zero => intro d h; have := cntT_pos d; omega
  | succ n ih =>
    intro d h
    cases d with
    | mk k t ks ds =>
      rw [cntT] at h
      rw [depT, cntT]
      have : ∀ (es : List Nd), cntL es ≤ n → depL es ≤ cntL es := by
        intro es
        induction es with
        | nil => intro _; exact Nat.le_refl _
        | cons e es ihe =>
          intro hes
          rw [cntL] at hes
          have h1 := ih e (by omega)
          have h2 := ihe (by omega)
          rw [depL, cntL]; omega
      have := this ds (by omega)
      omega
theorem sameL_len : ∀ {a b : List Nd}, sameL a b = true → a.length = b.length
  | [], [], _ => rfl
  | _ :: a, _ :: b, h => by
    rw [sameL, Bool.and_eq_true] at h
    rw [List.length_cons, List.length_cons, sameL_len h.2]
  | [], _ :: _, h => by cases h
  | _ :: _, [], h => by cases h
theorem sameT_refl (n : Nat) : ∀ d : Nd, cntT d ≤ n → sameT d d = true := by
  induction n with
  | zero => intro d h; have := cntT_pos d; omega
  | succ n ih =>
    intro d h
    cases d with
    | mk k t ks ds =>
      rw [cntT] at h
      have : ∀ (es : List Nd), cntL es ≤ n → sameL es es = true := by
        intro es
        induction es with
        | nil => intro _; rfl
        | cons e es ihe =>
          intro hes
          rw [cntL] at hes
          rw [sameL, ih e (by omega), ihe (by omega)]; rfl
      rw [sameT, decide_eq_true rfl, decide_eq_true rfl, decide_eq_true rfl, this ds (by omega)]; rfl
theorem sameT_eq (n : Nat) : ∀ (d e : Nd), cntT d ≤ n → sameT d e = true → d = e := by
  induction n with
  | zero => intro d e h; have := cntT_pos d; omega
  | succ n ih =>
    intro d e h hs
    cases d with
    | mk k t ks ds =>
      cases e with
      | mk k' t' ks' ds' =>
        rw [cntT] at h
        have : ∀ (a b : List Nd), cntL a ≤ n → sameL a b = true → a = b := by
          intro a
          induction a with
          | nil => intro b _ hb; cases b with | nil => rfl | cons x b => cases hb
          | cons x a iha =>
            intro b hb hs
            cases b with
            | nil => cases hs
            | cons y b =>
              rw [cntL] at hb
              rw [sameL, Bool.and_eq_true] at hs
              rw [ih x y (by omega) hs.1, iha b (by omega) hs.2]
        rw [sameT, Bool.and_eq_true, Bool.and_eq_true, Bool.and_eq_true] at hs
        obtain ⟨⟨⟨h1, h2⟩, h3⟩, h4⟩ := hs
        rw [of_decide_eq_true h1, of_decide_eq_true h2, of_decide_eq_true h3, this ds ds' (by omega) h4]
theorem sameT_iff {d e : Nd} : sameT d e = true ↔ d = e := ⟨sameT_eq _ d e (Nat.le_refl _), fun h => by subst h; exact sameT_refl _ d (Nat.le_refl _)⟩
/- ### What a valid node has. -/
theorem leftL_neg : ∀ (ds : List Nd) (deep left : Int), left < 0 → ds ≠ [] → leftL ds deep left = -1 := by
  intro ds deep left h hne
  cases ds with
  | nil => exact absurd rfl hne
  | cons d ds =>
    cases d with
    | mk k t ks es =>
      have : leftT (.mk k t ks es) deep left = -1 := by rw [leftT, if_pos (.inl (by omega))]
      rw [leftL, this, if_pos (by decide)]
mutual
theorem leftT_cnt : ∀ (d : Nd) (deep left : Int), 0 ≤ leftT d deep left → leftT d deep left = left - (cntT d : Int)
  | .mk k t ks ds, deep, left, h => by
    rw [leftT] at h ⊢
    split at h
    · exact absurd h (by decide)
    · rename_i h1
      rw [if_neg h1]
      split at h
      · exact absurd h (by decide)
      · rename_i h2
        rw [if_neg h2]
        split at h
        · exact absurd h (by decide)
        · rename_i h3
          rw [if_neg h3, leftL_cnt ds (deep + 1) (left - 1) h, cntT]; omega
theorem leftL_cnt : ∀ (ds : List Nd) (deep left : Int), 0 ≤ leftL ds deep left → leftL ds deep left = left - (cntL ds : Int)
  | [], deep, left, h => by rw [leftL, cntL]; omega
  | d :: ds, deep, left, h => by
    rw [leftL] at h ⊢
    split at h
    · exact absurd h (by decide)
    · rename_i h1
      rw [if_neg h1]
      have e := leftT_cnt d deep left (by omega)
      rw [leftL_cnt ds deep _ h, e, cntL]; omega
end
theorem ok_cnt {most : Int} {d : Nd} (h : okT most d = true) : (cntT d : Int) ≤ most := by
  have h1 : 0 ≤ leftT d 1 most := of_decide_eq_true h
  have := leftT_cnt d 1 most h1
  omega
/-- The form of a node and its kids: what valid means, without the counts. -/
inductive Fine : Nd → Prop
  | mk {k : Int} {t : L8} {ks : List L8} {ds : List Nd} (h0 : 0 ≤ k) (h3 : k ≤ 3) (hf : formB k t ks ds.length = true) (hk : k = 3 → ks.length = ds.length ∧ (sortL ks).length = ks.length) (hd : ∀ d ∈ ds, Fine d) : Fine (.mk k t ks ds)
mutual
theorem leftT_fine : ∀ (d : Nd) (deep left : Int), 0 ≤ leftT d deep left → Fine d
  | .mk k t ks ds, deep, left, h => by
    rw [leftT] at h
    split at h
    · exact absurd h (by decide)
    · rename_i h1
      split at h
      · exact absurd h (by decide)
      · rename_i h2
        split at h
        · exact absurd h (by decide)
        · rename_i h3
          refine .mk (by omega) (by omega) (by simpa using h2) ?_ (leftL_fine ds (deep + 1) (left - 1) h)
          intro hk
          unfold keysB at h3
          rw [decide_eq_true hk] at h3
          simp only [Bool.true_and, Bool.not_eq_false', Bool.or_eq_true, decide_eq_true_eq, not_or] at h3
          simp at h3
          exact ⟨h3.1.1, h3.2⟩
theorem leftL_fine : ∀ (ds : List Nd) (deep left : Int), 0 ≤ leftL ds deep left → ∀ d ∈ ds, Fine d
  | [], _, _, _ => fun d hd => by cases hd
  | e :: ds, deep, left, h => by
    rw [leftL] at h
    split at h
    · exact absurd h (by decide)
    · rename_i h1
      intro d hd
      rcases List.mem_cons.1 hd with he | hd
      · rw [he]; exact leftT_fine e deep left (by omega)
      · exact leftL_fine ds deep _ h d hd
end
theorem ok_fine {most : Int} {d : Nd} (h : okT most d = true) : Fine d := leftT_fine d 1 most (of_decide_eq_true h)
end N8
end Go.Proofs.YtemndagaicamiaaGreatDoor
namespace Go.Proofs.YtemndagaicamiaaGreatDoor
namespace N8
open Nw
set_option linter.unusedVariables false
theorem sortL_le (l : List L8) : (sortL l).length ≤ l.length := sortL_length_le l
theorem sortL_same {l m : List L8} (h : ∀ x, x ∈ l ↔ x ∈ m) : sortL l = sortL m :=
  asc_unique (sortL_facts l).1 (sortL_facts m).1 fun x => by rw [(sortL_facts l).2, (sortL_facts m).2]; exact h x
/-- No key stands twice. -/
def Once (l : List L8) : Prop := ∀ (i j : Nat) (hi : i < l.length) (hj : j < l.length), i < j → l[i]'hi ≠ l[j]'hj
theorem once_of {l : List L8} (h : (sortL l).length = l.length) : Once l := by
  intro i j hi hj hij e
  have hm : ∀ x, x ∈ l.eraseIdx j ↔ x ∈ l := by
    intro x
    refine ⟨fun hx => (List.eraseIdx_subset hx), fun hx => ?_⟩
    obtain ⟨n, hn, rfl⟩ := List.mem_iff_getElem.1 hx
    by_cases hnj : n = j
    · subst hnj
      rw [← e]
      exact List.mem_eraseIdx_iff_getElem.2 ⟨i, hi, by omega, rfl⟩
    · exact List.mem_eraseIdx_iff_getElem.2 ⟨n, hn, by omega, rfl⟩
  have h1 := sortL_le (l.eraseIdx j)
  rw [sortL_same hm, List.length_eraseIdx, if_pos hj] at h1
  omega
theorem once_tail {k : L8} {l : List L8} (h : Once (k :: l)) : Once l := fun i j hi hj hij => h (i + 1) (j + 1) (Nat.succ_lt_succ hi) (Nat.succ_lt_succ hj) (Nat.succ_lt_succ hij)
theorem once_head {k : L8} {l : List L8} (h : Once (k :: l)) : k ∉ l := by
  intro hk
  obtain ⟨n, hn, e⟩ := List.mem_iff_getElem.1 hk
  exact h 0 (n + 1) (Nat.succ_pos _) (Nat.succ_lt_succ hn) (Nat.succ_pos _) e.symm
theorem putK_no : ∀ {ks : List L8} {ds : List Nd} {x : L8} {v : Nd}, ks.length = ds.length → x ∉ ks → putK ks ds x v = ds
  | [], [], _, _, _, _ => by rw [putK]; intros; contradiction
  | k :: ks, d :: ds, x, v, hl, hx => by
    rw [putK, if_neg fun e => hx (by rw [e]; exact List.mem_cons_self ..), putK_no (Nat.succ.inj hl) fun h => hx (List.mem_cons_of_mem _ h)]
  | [], _ :: _, _, _, hl, _ => by cases hl
  | _ :: _, [], _, _, hl, _ => by cases hl
theorem putK_at : ∀ {ks : List L8} {ds : List Nd} {x : L8} {v : Nd} {j : Nat} (hj : j < ks.length), Once ks → ks.length = ds.length → ks[j]'hj = x → putK ks ds x v = ds.set j v
  | [], _, _, _, j, hj, _, _, _ => absurd hj (Nat.not_lt_zero _)
  | k :: ks, d :: ds, x, v, 0, hj, ho, hl, e => by
    have e' : k = x := e
    subst e'
    rw [putK, if_pos rfl, putK_no (Nat.succ.inj hl) (once_head ho)]; rfl
  | k :: ks, d :: ds, x, v, j + 1, hj, ho, hl, e => by
    have hk : k ≠ x := fun h => once_head ho (by rw [h, ← e]; exact List.getElem_mem _)
    rw [putK, if_neg hk, putK_at (Nat.lt_of_succ_lt_succ hj) (once_tail ho) (Nat.succ.inj hl) e]; rfl
  | _ :: _, [], _, _, _, _, _, hl, _ => by cases hl
theorem dropK_no : ∀ {ks : List L8} {ds : List Nd} {x : L8}, ks.length = ds.length → x ∉ ks → dropK ks ds x = ds
  | [], [], _, _, _ => by rw [dropK]; intros; contradiction
  | k :: ks, d :: ds, x, hl, hx => by
    rw [dropK, if_neg fun e => hx (by rw [e]; exact List.mem_cons_self ..), dropK_no (Nat.succ.inj hl) fun h => hx (List.mem_cons_of_mem _ h)]
  | [], _ :: _, _, hl, _ => by cases hl
  | _ :: _, [], _, hl, _ => by cases hl
theorem filter_no {ks : List L8} {x : L8} (h : x ∉ ks) : (ks.filter fun k => decide (k ≠ x)) = ks := by
  rw [List.filter_eq_self]
  intro a ha
  exact decide_eq_true fun e => h (by rw [← e]; exact ha)
theorem dropK_at : ∀ {ks : List L8} {ds : List Nd} {x : L8} {j : Nat} (hj : j < ks.length), Once ks → ks.length = ds.length → ks[j]'hj = x → dropK ks ds x = ds.eraseIdx j
  | [], _, _, j, hj, _, _, _ => absurd hj (Nat.not_lt_zero _)
  | k :: ks, d :: ds, x, 0, hj, ho, hl, e => by
    have e' : k = x := e
    subst e'
    rw [dropK, if_pos rfl, dropK_no (Nat.succ.inj hl) (once_head ho)]; rfl
  | k :: ks, d :: ds, x, j + 1, hj, ho, hl, e => by
    have hk : k ≠ x := fun h => once_head ho (by rw [h, ← e]; exact List.getElem_mem _)
    rw [dropK, if_neg hk, dropK_at (Nat.lt_of_succ_lt_succ hj) (once_tail ho) (Nat.succ.inj hl) e]; rfl
  | _ :: _, [], _, _, _, _, hl, _ => by cases hl
theorem filter_at : ∀ {ks : List L8} {x : L8} {j : Nat} (hj : j < ks.length), Once ks → ks[j]'hj = x → (ks.filter fun k => decide (k ≠ x)) = ks.eraseIdx j
  | [], _, j, hj, _, _ => absurd hj (Nat.not_lt_zero _)
  | k :: ks, x, 0, hj, ho, e => by
    have e' : k = x := e
    subst e'
    rw [List.filter_cons_of_neg (by simp), filter_no (once_head ho)]; rfl
  | k :: ks, x, j + 1, hj, ho, e => by
    have hk : k ≠ x := fun h => once_head ho (by rw [h, ← e]; exact List.getElem_mem _)
    rw [List.filter_cons_of_pos (by simpa using hk), filter_at (Nat.lt_of_succ_lt_succ hj) (once_tail ho) e]; rfl
theorem fine_once {d : Nd} (h : Fine d) (hk : d.kind = 3) : Once d.keys := by
  cases h with
  | mk h0 h3 hf hk' hd => exact once_of (hk' hk).2
/-- What stands empty in a valid node. -/
theorem fine_null {d : Nd} (h : Fine d) (hk : d.kind = 0) : d.keys = [] ∧ d.kids = [] ∧ d.text = [] := by
  cases h with
  | @mk k t ks ds h0 h3 hf hk' hd =>
    have hk0 : k = 0 := hk
    subst hk0
    unfold formB at hf
    simp at hf
    exact ⟨hf.1.2, hf.2, hf.1.1⟩
theorem fine_text {d : Nd} (h : Fine d) (hk : d.kind ≠ 1) : d.text = [] := by
  cases h with
  | @mk k t ks ds h0 h3 hf hk' hd =>
    have hk0 : k ≠ 1 := hk
    unfold formB at hf
    rw [decide_eq_true hk0] at hf
    simp at hf
    exact hf.1.1
theorem with_at {d : Nd} {x : L8} {v : Nd} (hf : Fine d) (hk : d.kind = 3) {j : Nat} (hj : j < d.keys.length) (e : d.keys[j]'hj = x) : withT d x v = .mk 3 [] d.keys (d.kids.set j v) := by
  have hx : x ∈ d.keys := by rw [← e]; exact List.getElem_mem _
  have hl : d.keys.length = d.kids.length := by cases hf with | mk h0 h3 hf hk' hd => exact (hk' hk).1
  unfold withT
  rw [if_neg (by rw [hk]; decide), if_pos hx, if_pos hx, List.append_nil, List.append_nil, putK_at hj (fine_once hf hk) hl e]
theorem with_no {d : Nd} {x : L8} {v : Nd} (hf : Fine d) (hk : d.kind = 0 ∨ d.kind = 3) (hx : x ∉ d.keys) : withT d x v = .mk 3 [] (d.keys ++ [x]) (d.kids ++ [v]) := by
  have hl : d.keys.length = d.kids.length := by
    rcases hk with hk | hk
    · obtain ⟨h1, h2, -⟩ := fine_null hf hk
      rw [h1, h2]; rfl
    · cases hf with | mk h0 h3 hf hk' hd => exact (hk' hk).1
  unfold withT
  rw [if_neg (by omega), if_neg hx, if_neg hx, putK_no hl hx]
theorem with_else {d : Nd} {x : L8} {v : Nd} (h0 : d.kind ≠ 0) (h3 : d.kind ≠ 3) : withT d x v = d := if_pos ⟨h0, h3⟩
theorem less_at {d : Nd} {x : L8} (hf : Fine d) (hk : d.kind = 3) {j : Nat} (hj : j < d.keys.length) (e : d.keys[j]'hj = x) : lessT d x = .mk 3 [] (d.keys.eraseIdx j) (d.kids.eraseIdx j) := by
  have hl : d.keys.length = d.kids.length := by cases hf with | mk h0 h3 hf hk' hd => exact (hk' hk).1
  unfold lessT
  rw [if_neg (by rw [hk]; decide), filter_at hj (fine_once hf hk) e, dropK_at hj (fine_once hf hk) hl e]
theorem less_no {d : Nd} {x : L8} (hf : Fine d) (h : d.kind = 3 → x ∉ d.keys) : lessT d x = d := by
  unfold lessT
  by_cases hk : d.kind = 3
  · have hl : d.keys.length = d.kids.length := by cases hf with | mk h0 h3 hf hk' hd => exact (hk' hk).1
    rw [if_neg (by rw [hk]; decide), filter_no (h hk), dropK_no hl (h hk), ← hk, ← fine_text hf (by rw [hk]; decide)]
    exact Nd.eta d
  · rw [if_pos hk]
end N8
end Go.Proofs.YtemndagaicamiaaGreatDoor
namespace Go.Proofs.YtemndagaicamiaaGreatDoor
namespace F9
open Nw N8 Q6
set_option linter.unusedVariables false
/-- How many spaces stand ahead. -/
def blk : L8 → Nat
  | [] => 0
  | c :: l => if c = 32 then blk l + 1 else 0
/-- Does what is plain end at c, ahead of l? -/
def stops (c : UInt8) (l : L8) : Bool := has marks c || (isC 58 c && (decide (l = []) || isC 32 (l.headD 0) || has marks (l.headD 0)))
/-- How long what is plain is. -/
def pln : L8 → Nat
  | [] => 0
  | c :: l => if stops c l then 0 else pln l + 1
/-- Without spaces at its end. -/
def trm (l : L8) : L8 := Lib.trimRightB l 32
/-- The quoted text ahead, and how long it is. -/
def scnP (l : L8) : Option (L8 × Nat) := scanR l 0
def isQ (c : UInt8) : Bool := decide (c = 34) || decide (c = 39)
/-- A text's node. -/
def txt (t : L8) : Nd := .mk 1 t [] []
/-- A plain scalar within a collection. -/
def sclP (l : L8) : Option Nd := if bad3 l then some nul else if rowB l then some (txt l) else none
/-- A key ahead, with its colon, and how long it is. -/
def keyP (l : L8) : Option (L8 × Nat) :=
  if isQ (l.headD 0) then
    match scnP l with
    | none => none
    | some p => if (l.drop (p.2 + blk (l.drop p.2))).headD 0 = 58 then some (p.1, p.2 + blk (l.drop p.2) + 1) else none
  else if rowB (trm (l.take (pln l))) && decide ((l.drop (pln l)).headD 0 = 58) then some (trm (l.take (pln l)), pln l + 1) else none
def bump (k : Nat) (p : Nd × Nat) : Nd × Nat := (p.1, k + p.2)
theorem blk_le : ∀ l : L8, blk l ≤ l.length
  | [] => Nat.le_refl _
  | c :: l => by
    rw [blk, List.length_cons]
    have := blk_le l
    split
    · omega
    · exact Nat.zero_le _
theorem pln_le : ∀ l : L8, pln l ≤ l.length
  | [] => Nat.le_refl _
  | c :: l => by
    rw [pln, List.length_cons]
    have := pln_le l
    split
    · exact Nat.zero_le _
    · omega
/-- What stands behind k bytes, if it is shorter. -/
theorem drop_lt {l : L8} {k : Nat} {c : UInt8} {t : L8} (h : l.drop k = c :: t) : t.length < l.length := by
  have h1 : (l.drop k).length = t.length + 1 := by rw [h]; rfl
  rw [List.length_drop] at h1
  omega
mutual
/-- The value ahead, where no space is, and how long it is. -/
def valP (l : L8) : Option (Nd × Nat) :=
  match l with
  | [] => some (nul, 0)
  | c :: t =>
    if c = 91 then (if (t.drop (blk t)).headD 0 = 93 then some (.mk 2 [] [] [], blk t + 2) else (rowP t []).map (bump 1))
    else if c = 123 then (if (t.drop (blk t)).headD 0 = 125 then some (.mk 3 [] [] [], blk t + 2) else (prsP t [] []).map (bump 1))
    else if isQ c then (scnP (c :: t)).map fun p => (txt p.1, p.2)
    else (sclP (trm ((c :: t).take (pln (c :: t))))).map fun d => (d, pln (c :: t))
  termination_by 2 * l.length
  decreasing_by all_goals simp_wf; all_goals omega
/-- The rest of a sequence, from an element on; the elements so far. -/
def rowP (l : L8) (ds : List Nd) : Option (Nd × Nat) :=
  match valP (l.drop (blk l)) with
  | none => none
  | some (v, m) =>
    if m = 0 then none
    else
      match h : l.drop (blk l + m + blk (l.drop (blk l + m))) with
      | [] => none
      | c :: t =>
        if c = 93 then some (.mk 2 [] [] (ds ++ [v]), blk l + m + blk (l.drop (blk l + m)) + 1)
        else if c = 44 then (rowP t (ds ++ [v])).map (bump (blk l + m + blk (l.drop (blk l + m)) + 1))
        else none
  termination_by 2 * l.length + 1
  decreasing_by
    · simp only [List.length_drop]; omega
    · have := drop_lt h; omega
/-- The rest of a map, from an entry on; the entries so far. -/
def prsP (l : L8) (ks : List L8) (ds : List Nd) : Option (Nd × Nat) :=
  match hk : keyP (l.drop (blk l)) with
  | none => none
  | some (x, j) =>
    if x ∈ ks then none
    else
      match valP (l.drop (blk l + j + blk (l.drop (blk l + j)))) with
      | none => none
      | some (v, m) =>
        match h : l.drop (blk l + j + blk (l.drop (blk l + j)) + m + blk (l.drop (blk l + j + blk (l.drop (blk l + j)) + m))) with
        | [] => none
        | c :: t =>
          if c = 125 then some (.mk 3 [] (ks ++ [x]) (ds ++ [v]), blk l + j + blk (l.drop (blk l + j)) + m + blk (l.drop (blk l + j + blk (l.drop (blk l + j)) + m)) + 1)
          else if c = 44 then (prsP t (ks ++ [x]) (ds ++ [v])).map (bump (blk l + j + blk (l.drop (blk l + j)) + m + blk (l.drop (blk l + j + blk (l.drop (blk l + j)) + m)) + 1))
          else none
  termination_by 2 * l.length + 1
  decreasing_by
    · simp only [List.length_drop]; omega
    · have := drop_lt h; omega
end
/-- A whole text as a value; the error's number. -/
def parP (l : L8) : Option Nd :=
  match valP (l.drop (blk l)) with
  | none => none
  | some (v, m) => if (l.drop (blk l + m)).length = blk (l.drop (blk l + m)) then some v else none
def parV (l : L8) : Nd := match parP l with | some d => if okT 2000 d then d else nul | none => nul
/- ### Writing. -/
/-- A text or a key. -/
def wtx (t : L8) : L8 := if rowB t then t else dblL t
mutual
def wrT : Nd → L8
  | .mk k t ks ds => if k = 0 then [110, 117, 108, 108] else if k = 1 then wtx t else if k = 3 then 123 :: wrM ks ds ++ [125] else 91 :: wrS ds ++ [93]
def wrS : List Nd → L8
  | [] => []
  | d :: ds => wrT d ++ wrSt ds
def wrSt : List Nd → L8
  | [] => []
  | d :: ds => 44 :: 32 :: wrT d ++ wrSt ds
def wrM : List L8 → List Nd → L8
  | k :: ks, d :: ds => wtx k ++ 58 :: 32 :: wrT d ++ wrMt ks ds
  | _, _ => []
def wrMt : List L8 → List Nd → L8
  | k :: ks, d :: ds => 44 :: 32 :: wtx k ++ 58 :: 32 :: wrT d ++ wrMt ks ds
  | _, _ => []
end
end F9
end Go.Proofs.YtemndagaicamiaaGreatDoor
namespace Go.Proofs.YtemndagaicamiaaGreatDoor
namespace F9
open Nw N8 Q6
set_option linter.unusedVariables false
theorem blk_cons (c : UInt8) (l : L8) : blk (c :: l) = if c = 32 then blk l + 1 else 0 := rfl
theorem blk_no {c : UInt8} {l : L8} (h : c ≠ 32) : blk (c :: l) = 0 := if_neg h
theorem blk_sp : ∀ (r : L8) (j : Nat), j < blk r → r.getD j 0 = 32
  | [], j, h => absurd h (Nat.not_lt_zero _)
  | c :: l, j, h => by
    rw [blk] at h
    by_cases hc : c = 32
    · rw [if_pos hc] at h
      cases j with
      | zero => exact hc
      | succ j => exact blk_sp l j (by omega)
    · rw [if_neg hc] at h; omega
theorem blk_take (r : L8) : ∀ b ∈ r.take (blk r), b = 32 := by
  intro b hb
  obtain ⟨j, hj, rfl⟩ := List.mem_iff_getElem.1 hb
  rw [List.length_take] at hj
  have := blk_sp r j (by omega)
  rw [List.getElem_take]
  rw [List.getD_eq_getElem?_getD, List.getElem?_eq_getElem (by omega)] at this
  exact this
/-- Behind the spaces: nothing, or a mark. -/
def okR (r : L8) : Prop := r.drop (blk r) = [] ∨ has marks ((r.drop (blk r)).headD 0) = true
theorem okR_mark {c : UInt8} {l : L8} (hc : c ≠ 32) (h : has marks c = true) : okR (c :: l) := by
  unfold okR
  rw [blk_no hc]
  exact .inr h
theorem pln_ok : ∀ r : L8, okR r → pln r = blk r
  | [], _ => rfl
  | c :: l, h => by
    unfold okR at h
    rw [pln]
    by_cases hc : c = 32
    · subst hc
      rw [blk_cons, if_pos rfl] at h ⊢
      have hs : stops 32 l = false := by unfold stops; simp [has, marks, isC]
      rw [hs, if_neg Bool.false_ne_true, pln_ok l h]
    · rw [blk_no hc] at h ⊢
      rcases h with h | h
      · cases h
      · have hs : stops c l = true := by
          unfold stops
          rw [show has marks c = true from h]; rfl
        rw [hs, if_pos rfl]
theorem row_every {t : L8} (h : rowB t = true) : bad3 t = false ∧ (∀ i, i < t.length → okI plainF t i = true) ∧ ∀ i, i < t.length → has marks (t.getD i 0) = false := by
  unfold rowB at h
  rw [Bool.and_eq_true] at h
  obtain ⟨h1, h2⟩ := h
  unfold plainB at h1
  by_cases hb : bad3 t = true
  · rw [if_pos hb] at h1; cases h1
  · rw [if_neg hb] at h1
    refine ⟨by simpa using hb, every_iff.1 h1, fun i hi => ?_⟩
    have := every_iff.1 h2 i hi
    unfold okI rowF at this
    simpa using this
theorem row_ne {t : L8} (h : rowB t = true) : t ≠ [] := by
  rintro rfl
  have := (row_every h).1
  revert this; decide
theorem row_first {t : L8} (h : rowB t = true) : t.getD 0 0 ≠ 32 ∧ has firsts (t.getD 0 0) = false := by
  have hp : 0 < t.length := List.length_pos_iff.2 (row_ne h)
  have h1 := (row_every h).2.1 0 hp
  unfold okI at h1
  rw [show bef t 0 = 10 by simp [bef]] at h1
  unfold plainF at h1
  have hf : has firsts (t.getD 0 0) = false := by
    rw [Bool.eq_false_iff]; intro e
    rw [e] at h1
    revert h1; simp [isC]
  refine ⟨fun e => ?_, hf⟩
  rw [e] at h1
  revert h1; simp [isC, has, firsts]
theorem row_last {t : L8} (h : rowB t = true) : t.getD (t.length - 1) 0 ≠ 32 := by
  have hp : 0 < t.length := List.length_pos_iff.2 (row_ne h)
  have h1 := (row_every h).2.1 (t.length - 1) (by omega)
  unfold okI at h1
  rw [show aft t (t.length - 1) = 10 by unfold aft; rw [if_neg (by omega)]] at h1
  intro e
  rw [e] at h1
  unfold plainF at h1
  revert h1; simp [isC, has, firsts]
theorem row_colon {t : L8} (h : rowB t = true) {i : Nat} (hi : i < t.length) (hc : t.getD i 0 = 58) : i + 1 < t.length ∧ t.getD (i + 1) 0 ≠ 32 := by
  have h1 := (row_every h).2.1 i hi
  unfold okI at h1
  rw [hc] at h1
  unfold plainF at h1
  have h2 : loose (aft t i) = false := by
    rw [Bool.eq_false_iff]; intro e
    rw [e] at h1
    revert h1; simp [isC, has, firsts]
  unfold loose at h2
  rw [Bool.or_eq_false_iff] at h2
  unfold aft at h2
  by_cases hl : i + 1 < t.length
  · rw [if_pos hl] at h2
    exact ⟨hl, fun e => by rw [e] at h2; exact absurd h2.2 (by decide)⟩
  · rw [if_neg hl] at h2
    exact absurd h2.1 (by decide)
theorem row_go {t : L8} (h : rowB t = true) (r : L8) {i : Nat} (hi : i < t.length) : stops (t.getD i 0) (t.drop (i + 1) ++ r) = false := by
  unfold stops
  rw [(row_every h).2.2 i hi, Bool.false_or]
  by_cases hc : t.getD i 0 = 58
  · obtain ⟨h1, h2⟩ := row_colon h hi hc
    rw [drop_cons h1, List.cons_append]
    have h3 := (row_every h).2.2 (i + 1) h1
    show (isC 58 (t.getD i 0) && (decide (t.getD (i + 1) 0 :: (t.drop (i + 1 + 1) ++ r) = []) || isC 32 (t.getD (i + 1) 0) || has marks (t.getD (i + 1) 0))) = false
    rw [h3, show isC 32 (t.getD (i + 1) 0) = false from decide_eq_false h2]
    simp
  · rw [show isC 58 (t.getD i 0) = false from decide_eq_false hc]; rfl
theorem pln_in {t : L8} (h : rowB t = true) (r : L8) : ∀ (n i : Nat), i + n = t.length → pln (t.drop i ++ r) = n + pln r
  | 0, i, hi => by
    rw [List.drop_of_length_le (by omega), List.nil_append, Nat.zero_add]
  | n + 1, i, hi => by
    rw [drop_cons (show i < t.length by omega), List.cons_append, pln, row_go h r (by omega), if_neg Bool.false_ne_true, pln_in h r n (i + 1) (by omega)]
    omega
theorem pln_row {t : L8} (h : rowB t = true) (r : L8) : pln (t ++ r) = t.length + pln r := pln_in h r t.length 0 (Nat.zero_add _)
theorem trm_row {t : L8} (h : rowB t = true) (sp : L8) (hs : ∀ b ∈ sp, b = 32) : trm (t ++ sp) = t := by
  unfold trm
  rw [Lib.trimRightB_take (t ++ sp) 32 t.length (by simp) ?_ ?_, List.take_left]
  · intro j b hj hb
    rw [List.getElem?_append_right hj] at hb
    exact hs b (List.mem_of_getElem? hb)
  · intro b h0 hb
    rw [List.getElem?_append_left (by omega)] at hb
    have := row_last h
    rw [List.getD_eq_getElem?_getD, hb] at this
    exact this
theorem trm_null (sp : L8) (hs : ∀ b ∈ sp, b = 32) : trm ([110, 117, 108, 108] ++ sp) = [110, 117, 108, 108] := by
  unfold trm
  rw [Lib.trimRightB_take ([110, 117, 108, 108] ++ sp) 32 4 (by simp) ?_ ?_]
  · rfl
  · intro j b hj hb
    rw [List.getElem?_append_right hj] at hb
    exact hs b (List.mem_of_getElem? hb)
  · intro b _ hb
    have : b = 108 := by simpa using hb.symm
    rw [this]; decide
theorem scn_dbl (t r : L8) : scnP (dblL t ++ r) = some (t, (dblL t).length) := by
  unfold scnP scanR
  have e : dblL t ++ r = 34 :: (escL t ++ 34 :: r) := by unfold dblL; simp
  rw [e, if_pos (show (34 :: (escL t ++ 34 :: r)).getD 0 0 = 34 from rfl)]
  unfold atD
  rw [show (34 :: (escL t ++ 34 :: r)).drop (0 + 1) = escL t ++ 34 :: r from rfl, scD_esc]
  unfold dblL
  simp [push]; omega
/-- The first byte of a written text. -/
theorem wtx_first (t : L8) : ∃ c l, wtx t = c :: l ∧ c ≠ 32 ∧ c ≠ 91 ∧ c ≠ 123 ∧ c ≠ 93 ∧ c ≠ 125 ∧ (isQ c = !rowB t) := by
  unfold wtx
  by_cases h : rowB t = true
  · rw [if_pos h]
    obtain ⟨h1, h2⟩ := row_first h
    cases t with
    | nil => exact absurd rfl (row_ne h)
    | cons c l =>
      have h2 : has firsts c = false := h2
      have h3 : c ∉ firsts := of_decide_eq_false h2
      have h4 : c ≠ 34 ∧ c ≠ 39 ∧ c ≠ 91 ∧ c ≠ 123 ∧ c ≠ 93 ∧ c ≠ 125 := by
        refine ⟨?_, ?_, ?_, ?_, ?_, ?_⟩ <;> (rintro rfl; exact h3 (by decide))
      refine ⟨c, l, rfl, h1, h4.2.2.1, h4.2.2.2.1, h4.2.2.2.2.1, h4.2.2.2.2.2, ?_⟩
      rw [h]
      unfold isQ
      rw [decide_eq_false h4.1, decide_eq_false h4.2.1]; rfl
  · rw [if_neg h]
    have hf : rowB t = false := by simpa using h
    rw [hf]
    exact ⟨34, escL t ++ [34], rfl, by decide, by decide, by decide, by decide, by decide, by decide⟩
theorem key_back (k z : L8) : keyP (wtx k ++ 58 :: 32 :: z) = some (k, (wtx k).length + 1) := by
  obtain ⟨c, l, hw, -, -, -, -, -, hq⟩ := wtx_first k
  unfold keyP
  have hh : (wtx k ++ 58 :: 32 :: z).headD 0 = c := by rw [hw]; rfl
  rw [hh, hq]
  by_cases h : rowB k = true
  · have hwk : wtx k = k := by unfold wtx; rw [if_pos h]
    rw [h, hwk]
    have hp : pln (k ++ 58 :: 32 :: z) = k.length := by
      rw [pln_row h, pln, show stops 58 (32 :: z) = true from by unfold stops; simp [isC], if_pos rfl, Nat.add_zero]
    rw [hp, List.take_left, List.drop_left, show trm k = k from by have := trm_row h [] (fun b hb => by cases hb); rwa [List.append_nil] at this, h]
    rfl
  · have hf : rowB k = false := by simpa using h
    have hwk : wtx k = dblL k := by unfold wtx; rw [if_neg h]
    rw [hf, hwk, Bool.not_false, if_pos rfl, scn_dbl]
    show (if ((dblL k ++ 58 :: 32 :: z).drop ((dblL k).length + blk ((dblL k ++ 58 :: 32 :: z).drop (dblL k).length))).headD 0 = 58 then some (k, (dblL k).length + blk ((dblL k ++ 58 :: 32 :: z).drop (dblL k).length) + 1) else none) = _
    rw [List.drop_left, blk_no (by decide), Nat.add_zero, List.drop_left]
    rfl
/-- What the value ahead of r is, and where it ends but for spaces. -/
def Back (d : Nd) (W r : L8) : Prop := ∃ m, valP (W ++ r) = some (d, m) ∧ m ≠ 0 ∧ m ≤ W.length + blk r ∧ m + blk ((W ++ r).drop m) = W.length + blk r
theorem back_end {d : Nd} {W r : L8} (h : valP (W ++ r) = some (d, W.length)) (h0 : W ≠ []) : Back d W r :=
  ⟨W.length, h, fun e => h0 (List.length_eq_zero_iff.1 e), by omega, by rw [List.drop_left]⟩
theorem back_all {d : Nd} {W r : L8} (hr : okR r) (h : valP (W ++ r) = some (d, W.length + blk r)) (h0 : W ≠ []) : Back d W r := by
  refine ⟨W.length + blk r, h, fun e => h0 (List.length_eq_zero_iff.1 (by omega)), Nat.le_refl _, ?_⟩
  have e : (W ++ r).drop (W.length + blk r) = r.drop (blk r) := by rw [← List.drop_drop, List.drop_left]
  have e2 : blk (r.drop (blk r)) = 0 := by
    rcases hr with h | h
    · rw [h]; rfl
    · cases hd : r.drop (blk r) with
      | nil => rfl
      | cons c l =>
        rw [hd] at h
        exact blk_no (fun e => by subst e; exact absurd h (by show ¬ has marks 32 = true; decide))
  rw [e, e2, Nat.add_zero]
theorem val_plain {c : UInt8} {t : L8} (h1 : c ≠ 91) (h2 : c ≠ 123) (h3 : isQ c = false) : valP (c :: t) = (sclP (trm ((c :: t).take (pln (c :: t))))).map fun d => (d, pln (c :: t)) := by
  rw [valP, if_neg h1, if_neg h2, h3, if_neg Bool.false_ne_true]
theorem val_quoted {c : UInt8} {t : L8} (h1 : c ≠ 91) (h2 : c ≠ 123) (h3 : isQ c = true) : valP (c :: t) = (scnP (c :: t)).map fun p => (txt p.1, p.2) := by
  rw [valP, if_neg h1, if_neg h2, h3, if_pos rfl]
theorem back_txt (t r : L8) (hr : okR r) : Back (txt t) (wtx t) r := by
  obtain ⟨c, l, hw, -, h91, h123, -, -, hq⟩ := wtx_first t
  have hne : wtx t ≠ [] := by rw [hw]; exact fun e => by cases e
  by_cases h : rowB t = true
  · have hwk : wtx t = t := by unfold wtx; rw [if_pos h]
    refine back_all hr ?_ hne
    have hp : pln (t ++ r) = t.length + blk r := by rw [pln_row h, pln_ok r hr]
    have ht : trm ((t ++ r).take (t.length + blk r)) = t := by
      rw [List.take_length_add_append]
      exact trm_row h _ (blk_take r)
    rw [h] at hq
    have hv := val_plain (t := l ++ r) h91 h123 hq
    have e : c :: (l ++ r) = t ++ r := by rw [← hwk, hw]; rfl
    rw [e, hp, ht] at hv
    rw [hwk, hv]
    unfold sclP
    rw [(row_every h).1, if_neg Bool.false_ne_true, if_pos h]; rfl
  · have hf : rowB t = false := by simpa using h
    have hwk : wtx t = dblL t := by unfold wtx; rw [if_neg h]
    refine back_end ?_ hne
    rw [hf] at hq
    have hv := val_quoted (t := l ++ r) h91 h123 hq
    have e : c :: (l ++ r) = dblL t ++ r := by rw [← hwk, hw]; rfl
    rw [e, scn_dbl] at hv
    rw [hwk, hv]; rfl
theorem back_null (r : L8) (hr : okR r) : Back nul [110, 117, 108, 108] r := by
  refine back_all hr ?_ (fun e => by cases e)
  have hp : pln ([110, 117, 108, 108] ++ r) = 4 + blk r := by
    have h1 : ∀ (c : UInt8) (l : L8), has marks c = false → isC 58 c = false → pln (c :: l) = pln l + 1 := by
      intro c l h1 h2
      rw [pln, show stops c l = false from by unfold stops; rw [h1, h2]; rfl, if_neg Bool.false_ne_true]
    show pln (110 :: 117 :: 108 :: 108 :: r) = _
    rw [h1 _ _ (by decide) (by decide), h1 _ _ (by decide) (by decide), h1 _ _ (by decide) (by decide), h1 _ _ (by decide) (by decide), pln_ok r hr]
    omega
  have ht : trm (([110, 117, 108, 108] ++ r).take (4 + blk r)) = [110, 117, 108, 108] := by
    have := List.take_length_add_append (l₁ := ([110, 117, 108, 108] : L8)) (l₂ := r) (blk r)
    rw [show ([110, 117, 108, 108] : L8).length = 4 from rfl] at this
    rw [this]
    exact trm_null _ (blk_take r)
  have hv := val_plain (c := 110) (t := [117, 108, 108] ++ r) (by decide) (by decide) (by decide)
  have e : (110 : UInt8) :: ([117, 108, 108] ++ r) = [110, 117, 108, 108] ++ r := rfl
  rw [e, hp, ht] at hv
  rw [hv]; rfl
theorem fine_in {k : Int} {t : L8} {ks : List L8} {ds : List Nd} (h : Fine (.mk k t ks ds)) : (0 ≤ k ∧ k ≤ 3) ∧ (k ≠ 1 → t = []) ∧ (k ≠ 3 → ks = []) ∧ (k < 2 → ds = []) ∧ ∀ d ∈ ds, Fine d := by
  cases h with
  | mk h0 h3 hf hk hd =>
    unfold formB at hf
    simp only [Bool.and_eq_true, Bool.not_eq_true', Bool.and_eq_false_iff, decide_eq_false_iff_not, Classical.not_not] at hf
    obtain ⟨⟨f1, f2⟩, f3⟩ := hf
    refine ⟨⟨h0, h3⟩, fun h => ?_, fun h => ?_, fun h => ?_, hd⟩
    · rcases f1 with f1 | f1
      · exact absurd f1 h
      · exact List.length_eq_zero_iff.1 (by omega)
    · rcases f2 with f2 | f2
      · exact absurd f2 h
      · exact List.length_eq_zero_iff.1 (by omega)
    · rcases f3 with f3 | f3
      · exact absurd h f3
      · exact List.length_eq_zero_iff.1 (by omega)
/-- The first byte of a written node. -/
theorem wrT_first (d : Nd) : ∃ c l, wrT d = c :: l ∧ c ≠ 32 ∧ c ≠ 93 ∧ c ≠ 125 := by
  cases d with
  | mk k t ks ds =>
    rw [wrT]
    split
    · exact ⟨110, _, rfl, by decide, by decide, by decide⟩
    · split
      · obtain ⟨c, l, h1, h2, -, -, h5, h6, -⟩ := wtx_first t
        exact ⟨c, l, h1, h2, h5, h6⟩
      · split
        · exact ⟨123, _, rfl, by decide, by decide, by decide⟩
        · exact ⟨91, _, rfl, by decide, by decide, by decide⟩
/-- A value and what follows it, up to the next mark. -/
theorem back_step {d : Nd} {W r l : L8} (h : Back d W r) (hl : l.drop (blk l) = W ++ r) :
    ∃ m, valP (l.drop (blk l)) = some (d, m) ∧ m ≠ 0 ∧ blk l + m + blk (l.drop (blk l + m)) = blk l + (W.length + blk r) ∧ l.drop (blk l + m + blk (l.drop (blk l + m))) = r.drop (blk r) := by
  obtain ⟨m, h1, h2, h3, h4⟩ := h
  have e : l.drop (blk l + m) = (W ++ r).drop m := by rw [← List.drop_drop, hl]
  refine ⟨m, by rw [hl]; exact h1, h2, by rw [e]; omega, ?_⟩
  rw [e, show blk l + m + blk ((W ++ r).drop m) = blk l + (W.length + blk r) by omega, ← List.drop_drop, hl, ← List.drop_drop, List.drop_left]
theorem row_last1 {d : Nd} {l : L8} {acc : List Nd} {m n : Nat} {t : L8} (h : valP (l.drop (blk l)) = some (d, m)) (hm : m ≠ 0) (hn : blk l + m + blk (l.drop (blk l + m)) = n) (hd : l.drop n = 93 :: t) : rowP l acc = some (.mk 2 [] [] (acc ++ [d]), n + 1) := by
  subst hn
  rw [rowP, h]
  show (if m = 0 then none else _) = _
  rw [if_neg hm]
  split
  · rename_i h9; rw [hd] at h9; cases h9
  · rename_i c t9 h9
    rw [hd] at h9
    injection h9 with h9 h10
    rw [← h9, if_pos rfl]
theorem row_next {d : Nd} {l : L8} {acc : List Nd} {m n : Nat} {t : L8} (h : valP (l.drop (blk l)) = some (d, m)) (hm : m ≠ 0) (hn : blk l + m + blk (l.drop (blk l + m)) = n) (hd : l.drop n = 44 :: t) : rowP l acc = (rowP t (acc ++ [d])).map (bump (n + 1)) := by
  subst hn
  rw [rowP, h]
  show (if m = 0 then none else _) = _
  rw [if_neg hm]
  split
  · rename_i h9; rw [hd] at h9; cases h9
  · rename_i c t9 h9
    rw [hd] at h9
    injection h9 with h9 h10
    rw [← h9, if_neg (by decide), if_pos rfl, h10]
theorem row_back : ∀ (ds : List Nd) (d : Nd) (acc : List Nd) (l r : L8), (∀ e ∈ d :: ds, ∀ r, okR r → Back e (wrT e) r) → l.drop (blk l) = wrT d ++ (wrSt ds ++ 93 :: r) →
    rowP l acc = some (.mk 2 [] [] (acc ++ d :: ds), blk l + (wrT d ++ wrSt ds).length + 1)
  | [], d, acc, l, r, hb, hl => by
    have hr : okR (93 :: r) := okR_mark (by decide) (by decide)
    rw [wrSt, List.nil_append] at hl
    obtain ⟨m, h1, h2, h3, h4⟩ := back_step (hb d (List.mem_cons_self ..) _ hr) hl
    rw [h3] at h4
    rw [row_last1 h1 h2 h3 (by rw [h4, blk_no (by decide)]; rfl), wrSt, List.append_nil, blk_no (by decide)]
    congr 1
  | d2 :: ds, d, acc, l, r, hb, hl => by
    have e1 : wrSt (d2 :: ds) ++ 93 :: r = 44 :: 32 :: (wrT d2 ++ (wrSt ds ++ 93 :: r)) := by rw [wrSt]; simp
    rw [e1] at hl
    have hr : okR (44 :: 32 :: (wrT d2 ++ (wrSt ds ++ 93 :: r))) := okR_mark (by decide) (by decide)
    obtain ⟨m, h1, h2, h3, h4⟩ := back_step (hb d (List.mem_cons_self ..) _ hr) hl
    rw [h3] at h4
    obtain ⟨c, w, hw, hc, -, -⟩ := wrT_first d2
    have hbk : blk (32 :: (wrT d2 ++ (wrSt ds ++ 93 :: r))) = 1 := by rw [blk_cons, if_pos rfl, hw, List.cons_append, blk_no hc]
    have ih := row_back ds d2 (acc ++ [d]) (32 :: (wrT d2 ++ (wrSt ds ++ 93 :: r))) r (fun e he => hb e (List.mem_cons_of_mem _ he)) (by rw [hbk]; rfl)
    rw [row_next h1 h2 h3 (by rw [h4, blk_no (by decide)]; rfl), ih, hbk, wrSt, blk_no (by decide)]
    simp only [Option.map_some, bump, List.append_assoc, List.length_append, List.length_cons, List.cons_append, Nat.add_zero]
    congr 2
    omega
theorem prs_step {x : L8} {d : Nd} {l : L8} {ks : List L8} {ds : List Nd} {j a m n : Nat} {c : UInt8} {t : L8} (hk : keyP (l.drop (blk l)) = some (x, j)) (hx : x ∉ ks) (ha : blk l + j + blk (l.drop (blk l + j)) = a) (h : valP (l.drop a) = some (d, m)) (hn : a + m + blk (l.drop (a + m)) = n) (hd : l.drop n = c :: t) :
    prsP l ks ds = if c = 125 then some (.mk 3 [] (ks ++ [x]) (ds ++ [d]), n + 1) else if c = 44 then (prsP t (ks ++ [x]) (ds ++ [d])).map (bump (n + 1)) else none := by
  subst ha
  subst hn
  rw [prsP]
  split
  · rename_i h9; rw [hk] at h9; cases h9
  · rename_i x9 j9 h9
    rw [hk] at h9
    injection h9 with h9
    injection h9 with h9 h10
    subst h9; subst h10
    rw [if_neg hx, h]
    show (match _h : l.drop _ with | [] => none | c :: t => _) = _
    split
    · rename_i h9; rw [hd] at h9; cases h9
    · rename_i c9 t9 h9
      rw [hd] at h9
      injection h9 with h9 h10
      rw [← h9, h10]
theorem prs_back : ∀ (ks : List L8) (ds : List Nd) (x : L8) (d : Nd) (ak : List L8) (ad : List Nd) (l r : L8), ks.length = ds.length → Once (ak ++ x :: ks) → (∀ e ∈ d :: ds, ∀ r, okR r → Back e (wrT e) r) → l.drop (blk l) = wtx x ++ 58 :: 32 :: (wrT d ++ (wrMt ks ds ++ 125 :: r)) →
    prsP l ak ad = some (.mk 3 [] (ak ++ x :: ks) (ad ++ d :: ds), blk l + (wtx x ++ 58 :: 32 :: wrT d ++ wrMt ks ds).length + 1)
  | ks, ds, x, d, ak, ad, l, r, hkd, ho, hb, hl => by
    obtain ⟨c0, w0, hw0, hc0, -, -⟩ := wrT_first d
    have hk : keyP (l.drop (blk l)) = some (x, (wtx x).length + 1) := by rw [hl]; exact key_back x _
    have hx : x ∉ ak := fun hm => by
      obtain ⟨i, hi, e⟩ := List.mem_iff_getElem.1 hm
      refine ho i ak.length (by rw [List.length_append]; omega) (by rw [List.length_append, List.length_cons]; omega) hi ?_
      rw [List.getElem_append_left hi, List.getElem_append_right (Nat.le_refl _), e]
      simp
    have hl2 : l.drop (blk l + ((wtx x).length + 1)) = 32 :: (wrT d ++ (wrMt ks ds ++ 125 :: r)) := by
      rw [← List.drop_drop, hl, ← List.drop_drop, List.drop_left]; rfl
    have hb2 : blk (32 :: (wrT d ++ (wrMt ks ds ++ 125 :: r))) = 1 := by rw [blk_cons, if_pos rfl, hw0, List.cons_append, blk_no hc0]
    have ha : blk l + ((wtx x).length + 1) + blk (l.drop (blk l + ((wtx x).length + 1))) = blk l + (wtx x).length + 2 := by rw [hl2, hb2]; omega
    have hl3 : l.drop (blk l + (wtx x).length + 2) = wrT d ++ (wrMt ks ds ++ 125 :: r) := by
      rw [show blk l + (wtx x).length + 2 = blk l + ((wtx x).length + 1) + 1 by omega, ← List.drop_drop, hl2]; rfl
    have key : ∀ (r2 : L8), okR r2 → blk r2 = 0 → wrMt ks ds ++ 125 :: r = r2 → ∃ m, valP (l.drop (blk l + (wtx x).length + 2)) = some (d, m) ∧ blk l + (wtx x).length + 2 + m + blk (l.drop (blk l + (wtx x).length + 2 + m)) = blk l + (wtx x).length + 2 + (wrT d).length ∧ l.drop (blk l + (wtx x).length + 2 + (wrT d).length) = r2 := by
      intro r2 hr2 h0 e2
      rw [e2] at hl3
      obtain ⟨m, h1, -, -, h4⟩ := hb d (List.mem_cons_self ..) r2 hr2
      have e : l.drop (blk l + (wtx x).length + 2 + m) = (wrT d ++ r2).drop m := by rw [← List.drop_drop, hl3]
      refine ⟨m, by rw [hl3]; exact h1, by rw [e]; omega, ?_⟩
      rw [← List.drop_drop, hl3, List.drop_left]
    match ks, ds, hkd with
    | [], [], _ =>
      obtain ⟨m, h1, h2, h3⟩ := key (125 :: r) (okR_mark (by decide) (by decide)) (blk_no (by decide)) (by rw [wrMt]; rfl; intros; contradiction)
      rw [prs_step hk hx ha h1 h2 h3, if_pos rfl]
      have : wrMt [] [] = [] := by rw [wrMt]; intros; contradiction
      rw [this, List.append_nil]
      simp only [List.length_append, List.length_cons]
      congr 2
      omega
    | k2 :: ks, d2 :: ds, hkd =>
      have e1 : wrMt (k2 :: ks) (d2 :: ds) ++ 125 :: r = 44 :: 32 :: (wtx k2 ++ 58 :: 32 :: (wrT d2 ++ (wrMt ks ds ++ 125 :: r))) := by rw [wrMt]; simp
      obtain ⟨m, h1, h2, h3⟩ := key _ (okR_mark (by decide) (by decide)) (blk_no (by decide)) e1
      rw [prs_step hk hx ha h1 h2 h3, if_neg (by decide), if_pos rfl]
      obtain ⟨c, w, hw, hc, -⟩ := wtx_first k2
      have hbk : blk (32 :: (wtx k2 ++ 58 :: 32 :: (wrT d2 ++ (wrMt ks ds ++ 125 :: r)))) = 1 := by rw [blk_cons, if_pos rfl, hw, List.cons_append, blk_no hc]
      have ih := prs_back ks ds k2 d2 (ak ++ [x]) (ad ++ [d]) (32 :: (wtx k2 ++ 58 :: 32 :: (wrT d2 ++ (wrMt ks ds ++ 125 :: r)))) r (Nat.succ.inj hkd) (by rw [List.append_assoc]; exact ho) (fun e he => hb e (List.mem_cons_of_mem _ he)) (by rw [hbk]; rfl)
      rw [ih, hbk]
      simp only [Option.map_some, bump, List.append_assoc, List.singleton_append]
      congr 2
      rw [wrMt]
      simp only [List.length_append, List.length_cons]
      omega
end F9
end Go.Proofs.YtemndagaicamiaaGreatDoor
namespace Go.Proofs.YtemndagaicamiaaGreatDoor
namespace F9
open Nw N8 Q6
set_option linter.unusedVariables false
theorem back_any : ∀ (N : Nat) (d : Nd), cntT d ≤ N → Fine d → ∀ r, okR r → Back d (wrT d) r
  | 0, d, h, _, _, _ => by have := cntT_pos d; omega
  | N + 1, .mk k t ks ds, h, hf, r, hr => by
    rw [cntT] at h
    obtain ⟨⟨h0, h3⟩, ht, hks, hds, hd⟩ := fine_in hf
    have ih : ∀ e ∈ ds, ∀ r, okR r → Back e (wrT e) r := fun e he r hr => by
      have := cntL_mem he
      exact back_any N e (by omega) (hd e he) r hr
    rw [wrT]
    by_cases k0 : k = 0
    · subst k0
      rw [if_pos rfl, ht (by decide), hks (by decide), hds (by decide)]
      exact back_null r hr
    rw [if_neg k0]
    by_cases k1 : k = 1
    · subst k1
      rw [if_pos rfl, hks (by decide), hds (by decide)]
      exact back_txt t r hr
    rw [if_neg k1]
    have ht0 := ht k1
    subst ht0
    by_cases k3 : k = 3
    · subst k3
      rw [if_pos rfl]
      have hl : ks.length = ds.length := by
        cases hf with
        | mk _ _ _ hk _ => exact (hk rfl).1
      have ho : Once ks := fine_once hf rfl
      match ks, ds, hl with
      | [], [], _ =>
        refine back_end ?_ (fun e => by cases e)
        have : wrM [] [] = [] := by rw [wrM]; intros; contradiction
        rw [this]
        show valP (123 :: 125 :: r) = _
        rw [valP, if_neg (by decide), if_pos rfl, blk_no (by decide), if_pos (show (List.drop 0 (125 :: r)).headD 0 = 125 from rfl)]; rfl
      | k :: ks, d :: ds, hl =>
        refine back_end ?_ (fun e => by cases e)
        have e1 : (123 :: wrM (k :: ks) (d :: ds) ++ [125]) ++ r = 123 :: (wtx k ++ 58 :: 32 :: (wrT d ++ (wrMt ks ds ++ 125 :: r))) := by rw [wrM]; simp
        rw [e1]
        obtain ⟨c, w, hw, hc, -, -, -, h125, -⟩ := wtx_first k
        have hb0 : blk (wtx k ++ 58 :: 32 :: (wrT d ++ (wrMt ks ds ++ 125 :: r))) = 0 := by rw [hw, List.cons_append, blk_no hc]
        have hp := prs_back ks ds k d [] [] (wtx k ++ 58 :: 32 :: (wrT d ++ (wrMt ks ds ++ 125 :: r))) r (Nat.succ.inj hl) ho ih (by rw [hb0]; rfl)
        rw [valP, if_neg (by decide), if_pos rfl, hb0, List.drop_zero, hp]
        have hh : (wtx k ++ 58 :: 32 :: (wrT d ++ (wrMt ks ds ++ 125 :: r))).headD 0 = c := by rw [hw]; rfl
        rw [hh, if_neg h125, hb0]
        simp only [Option.map_some, bump, List.nil_append]
        rw [wrM]
        simp only [List.length_append, List.length_cons, List.length_nil]
        congr 2
        omega
    · rw [if_neg k3]
      obtain rfl : k = 2 := by omega
      have hks0 := hks (by decide)
      subst hks0
      match ds with
      | [] =>
        refine back_end ?_ (fun e => by cases e)
        rw [wrS]
        show valP (91 :: 93 :: r) = _
        rw [valP, if_pos rfl, blk_no (by decide), if_pos (show (List.drop 0 (93 :: r)).headD 0 = 93 from rfl)]; rfl
      | d :: ds =>
        refine back_end ?_ (fun e => by cases e)
        have e1 : (91 :: wrS (d :: ds) ++ [93]) ++ r = 91 :: (wrT d ++ (wrSt ds ++ 93 :: r)) := by rw [wrS]; simp
        rw [e1]
        obtain ⟨c, w, hw, hc, h93, -⟩ := wrT_first d
        have hb0 : blk (wrT d ++ (wrSt ds ++ 93 :: r)) = 0 := by rw [hw, List.cons_append, blk_no hc]
        have hp := row_back ds d [] (wrT d ++ (wrSt ds ++ 93 :: r)) r ih (by rw [hb0]; rfl)
        rw [valP, if_pos rfl, hb0, List.drop_zero, hp]
        have hh : (wrT d ++ (wrSt ds ++ 93 :: r)).headD 0 = c := by rw [hw]; rfl
        rw [hh, if_neg h93, hb0]
        simp only [Option.map_some, bump, List.nil_append]
        rw [wrS]
        simp only [List.length_append, List.length_cons, List.length_nil]
        congr 2
        omega
/-- Spaces. -/
def spc (n : Nat) : L8 := List.replicate n 32
theorem blk_spc (n : Nat) (l : L8) : blk (spc n ++ l) = n + blk l := by
  induction n with
  | zero => show blk l = 0 + blk l; omega
  | succ n ih =>
    show blk (32 :: (spc n ++ l)) = _
    rw [blk_cons, if_pos rfl, ih]; omega
theorem blk_spc_all (n : Nat) : blk (spc n) = n := by
  have := blk_spc n []
  rw [List.append_nil] at this
  rw [this]; rfl
theorem parP_back {d : Nd} (hf : Fine d) (a b : Nat) : parP (spc a ++ (wrT d ++ spc b)) = some d := by
  have hr : okR (spc b) := by
    unfold okR
    rw [blk_spc_all]
    exact .inl (List.drop_of_length_le (by unfold spc; rw [List.length_replicate]; exact Nat.le_refl _))
  obtain ⟨m, h1, -, h3, h4⟩ := back_any (cntT d) d (Nat.le_refl _) hf (spc b) hr
  obtain ⟨c, w, hw, hc, -, -⟩ := wrT_first d
  have hb : blk (spc a ++ (wrT d ++ spc b)) = a := by rw [blk_spc, hw, List.cons_append, blk_no hc, Nat.add_zero]
  have hl : (spc a ++ (wrT d ++ spc b)).drop a = wrT d ++ spc b := by
    have : (spc a).length = a := by unfold spc; rw [List.length_replicate]
    conv => lhs; arg 1; rw [← this]
    exact List.drop_left
  unfold parP
  rw [hb, hl, h1]
  show (if ((spc a ++ (wrT d ++ spc b)).drop (a + m)).length = blk ((spc a ++ (wrT d ++ spc b)).drop (a + m)) then some d else none) = _
  have e : (spc a ++ (wrT d ++ spc b)).drop (a + m) = (wrT d ++ spc b).drop m := by rw [← List.drop_drop, hl]
  rw [e, if_pos]
  rw [blk_spc_all] at h3 h4
  rw [List.length_drop, List.length_append, show (spc b).length = b by unfold spc; rw [List.length_replicate]]
  omega
/- ### Which nodes are valid. -/
theorem depL_mem : ∀ {ds : List Nd} {d : Nd}, d ∈ ds → depT d ≤ depL ds
  | e :: ds, d, h => by
    rw [depL]
    rcases List.mem_cons.1 h with rfl | h
    · omega
    · have := depL_mem h; omega
mutual
theorem left_yes : ∀ (d : Nd) (deep left : Int), Fine d → 1 ≤ deep → deep - 1 + (depT d : Int) ≤ 12 → (cntT d : Int) ≤ left → leftT d deep left = left - (cntT d : Int)
  | .mk k t ks ds, deep, left, hf, h1, hd, hc => by
    have hpos := cntT_pos (.mk k t ks ds)
    rw [cntT] at hc hpos
    rw [depT] at hd
    have hlen := cntL_len ds
    have hk : formB k t ks ds.length = true ∧ (0 ≤ k ∧ k ≤ 3) ∧ (k = 3 → ks.length = ds.length ∧ (sortL ks).length = ks.length) ∧ ∀ d ∈ ds, Fine d := by
      cases hf with
      | mk h0 h3 hf hk hd => exact ⟨hf, ⟨h0, h3⟩, hk, hd⟩
    obtain ⟨f1, f2, f3, f4⟩ := hk
    rw [leftT, if_neg (by omega), f1, if_neg (by decide)]
    have hkb : keysB k ks ds.length (left - 1) = true := by
      unfold keysB
      by_cases k3 : k = 3
      · obtain ⟨g1, g2⟩ := f3 k3
        rw [decide_eq_true k3, decide_eq_false (by omega : ¬ ks.length ≠ ds.length), decide_eq_false (by omega : ¬ left - 1 < (ds.length : Int)), decide_eq_false (by omega : ¬ (sortL ks).length ≠ ks.length)]; rfl
      · rw [decide_eq_false k3]; rfl
    rw [hkb, if_neg (by decide), leftL_yes ds (deep + 1) (left - 1) f4 (by omega) (by omega) (by omega), cntT]
    omega
theorem leftL_yes : ∀ (ds : List Nd) (deep left : Int), (∀ d ∈ ds, Fine d) → 1 ≤ deep → deep - 1 + (depL ds : Int) ≤ 12 → (cntL ds : Int) ≤ left → leftL ds deep left = left - (cntL ds : Int)
  | [], deep, left, _, _, _, _ => by rw [leftL, cntL]; omega
  | d :: ds, deep, left, hf, h1, hd, hc => by
    rw [cntL] at hc
    rw [depL] at hd
    have h2 := left_yes d deep left (hf d (List.mem_cons_self ..)) h1 (by omega) (by omega)
    rw [leftL, h2, if_neg (by omega), leftL_yes ds deep _ (fun e he => hf e (List.mem_cons_of_mem _ he)) h1 (by omega) (by omega), cntL]
    omega
end
mutual
theorem left_dep : ∀ (d : Nd) (deep left : Int), 0 ≤ leftT d deep left → deep - 1 + (depT d : Int) ≤ 12
  | .mk k t ks ds, deep, left, h => by
    rw [leftT] at h
    split at h
    · exact absurd h (by decide)
    · rename_i h1
      split at h
      · exact absurd h (by decide)
      · split at h
        · exact absurd h (by decide)
        · rw [depT]
          rcases leftL_dep ds (deep + 1) (left - 1) h with h2 | h2
          · omega
          · rw [h2, depL]; omega
theorem leftL_dep : ∀ (ds : List Nd) (deep left : Int), 0 ≤ leftL ds deep left → deep - 1 + (depL ds : Int) ≤ 12 ∨ ds = []
  | [], _, _, _ => .inr rfl
  | d :: ds, deep, left, h => by
    rw [leftL] at h
    split at h
    · exact absurd h (by decide)
    · rename_i h1
      have h2 := left_dep d deep left (by omega)
      rw [depL]
      rcases leftL_dep ds deep _ h with h3 | h3
      · left; omega
      · subst h3; left; rw [depL]; omega
end
theorem ok_iff {most : Nat} {d : Nd} : okT (most : Int) d = true ↔ Fine d ∧ cntT d ≤ most ∧ depT d ≤ 12 := by
  constructor
  · intro h
    have h1 := ok_cnt h
    have h2 := left_dep d 1 most (of_decide_eq_true h)
    exact ⟨ok_fine h, by omega, by omega⟩
  · rintro ⟨h1, h2, h3⟩
    have := left_yes d 1 (most : Int) h1 (by omega) (by omega) (by omega)
    exact decide_eq_true (by rw [this]; omega)
theorem ok_more {m n : Nat} {d : Nd} (h : m ≤ n) (hd : okT (m : Int) d = true) : okT (n : Int) d = true := by
  obtain ⟨h1, h2, h3⟩ := ok_iff.1 hd
  exact ok_iff.2 ⟨h1, by omega, h3⟩
end F9
end Go.Proofs.YtemndagaicamiaaGreatDoor
namespace Go.Proofs.YtemndagaicamiaaGreatDoor
namespace F9
open Nw N8 Q6
set_option linter.unusedVariables false
theorem esc_len (c : UInt8) : (esc c).length ≤ 4 := by
  unfold esc
  repeat' split
  all_goals simp
theorem escL_len : ∀ l : L8, (escL l).length ≤ 4 * l.length
  | [] => Nat.le_refl _
  | c :: l => by
    rw [escL_cons, List.length_append, List.length_cons]
    have := esc_len c
    have := escL_len l
    omega
theorem dbl_len (t : L8) : (dblL t).length ≤ 4 * t.length + 2 := by
  unfold dblL
  have := escL_len t
  simp only [List.length_append, List.length_cons, List.length_nil]
  omega
theorem wtx_len (t : L8) : (wtx t).length ≤ 4 * t.length + 2 := by
  unfold wtx
  have := dbl_len t
  split <;> omega
theorem scD_facts : ∀ (N : Nat) (l : L8), l.length ≤ N → ∀ t n, scD l = some (t, n) → t.length + 1 ≤ n ∧ n ≤ l.length
  | _, [], _, t, n, h => by rw [scD_nil] at h; cases h
  | 0, c :: l, h, _, _, _ => by cases h
  | N + 1, c :: l, hN, t, n, h => by
    rw [List.length_cons] at hN
    by_cases hc : c = 34
    · subst hc
      rw [scD_end] at h
      injection h with h
      injection h with h1 h2
      subst h1; subst h2
      exact ⟨Nat.le_refl _, by rw [List.length_cons]; omega⟩
    · by_cases hd : (den (c :: l)).2 = 0
      · rw [scD_bad hc hd] at h; cases h
      · obtain ⟨v, m, hvm⟩ : ∃ v m, den (c :: l) = (v, m) := ⟨_, _, rfl⟩
        rw [hvm] at hd
        have hm : m ≠ 0 := hd
        have hml := den_len (c :: l)
        rw [hvm] at hml
        have hml : m ≤ l.length + 1 := hml
        rw [scD_next hc hvm hm] at h
        cases hs : scD ((c :: l).drop m) with
        | none => rw [hs] at h; cases h
        | some p =>
          obtain ⟨t1, n1⟩ := p
          rw [hs] at h
          have hdl : ((c :: l).drop m).length = l.length + 1 - m := by rw [List.length_drop, List.length_cons]
          obtain ⟨g1, g2⟩ := scD_facts N _ (by omega) t1 n1 hs
          have h9 : some (v :: t1, m + n1) = some (t, n) := h
          injection h9 with h9
          injection h9 with h1 h2
          subst h1; subst h2
          rw [List.length_cons, List.length_cons]
          omega
theorem scS_facts : ∀ (N : Nat) (l : L8), l.length ≤ N → ∀ t n, scS l = some (t, n) → t.length + 1 ≤ n ∧ n ≤ l.length
  | _, [], _, t, n, h => by rw [scS] at h; cases h
  | _, [c], _, t, n, h => by
    rw [scS] at h
    split at h
    · injection h with h
      injection h with h1 h2
      subst h1; subst h2
      exact ⟨Nat.le_refl _, Nat.le_refl _⟩
    · cases h
  | 0, c :: d :: l, h, _, _, _ => by cases h
  | N + 1, c :: d :: l, hN, t, n, h => by
    rw [List.length_cons, List.length_cons] at hN
    rw [scS] at h
    have key : ∀ (x : L8) (k : Nat) (l' : L8), (scS l').map (push x k) = some (t, n) → x.length = 1 → 1 ≤ k → l'.length ≤ N → k + l'.length ≤ l.length + 2 → t.length + 1 ≤ n ∧ n ≤ l.length + 2 := by
      intro x k l' h hx hk hN' hle
      cases hs : scS l' with
      | none => rw [hs] at h; cases h
      | some p =>
        obtain ⟨t1, n1⟩ := p
        rw [hs] at h
        obtain ⟨g1, g2⟩ := scS_facts N l' hN' t1 n1 hs
        have h9 : some (x ++ t1, k + n1) = some (t, n) := h
        injection h9 with h9
        injection h9 with h1 h2
        subst h1; subst h2
        rw [List.length_append]
        omega
    rw [List.length_cons, List.length_cons]
    split at h
    · split at h
      · split at h
        · exact key _ _ _ h rfl (by omega) (by omega) (by omega)
        · injection h with h
          injection h with h1 h2
          subst h1; subst h2
          exact ⟨Nat.le_refl _, by omega⟩
      · exact key _ _ _ h rfl (by omega) (by rw [List.length_cons]; omega) (by rw [List.length_cons]; omega)
    · cases h
theorem scn_facts {l t : L8} {n : Nat} (h : scnP l = some (t, n)) (hl : l ≠ []) : t.length + 2 ≤ n ∧ n ≤ l.length := by
  have hp : 0 < l.length := List.length_pos_iff.2 hl
  have hdl : (l.drop 1).length = l.length - 1 := by rw [List.length_drop]
  have key : ∀ o : Option (L8 × Nat), (∀ t n, o = some (t, n) → t.length + 1 ≤ n ∧ n ≤ (l.drop 1).length) → o.map (push [] 1) = some (t, n) → t.length + 2 ≤ n ∧ n ≤ l.length := by
    intro o ho h
    cases o with
    | none => cases h
    | some p =>
      obtain ⟨t1, n1⟩ := p
      obtain ⟨g1, g2⟩ := ho t1 n1 rfl
      have h9 : some ([] ++ t1, 1 + n1) = some (t, n) := h
      injection h9 with h9
      injection h9 with h1 h2
      subst h1; subst h2
      rw [List.nil_append]
      omega
  unfold scnP scanR at h
  split at h
  · exact key _ (fun t n h => scD_facts _ _ (Nat.le_refl _) t n h) h
  · exact key _ (fun t n h => scS_facts _ _ (Nat.le_refl _) t n h) h
theorem trm_le (l : L8) : (trm l).length ≤ l.length := by
  unfold trm Lib.trimRightB
  rw [List.length_reverse]
  have := (List.dropWhile_sublist (p := (· == (32 : UInt8))) (l := l.reverse)).length_le
  rw [List.length_reverse] at this
  exact this
theorem key_facts {l x : L8} {j : Nat} (h : keyP l = some (x, j)) : (wtx x).length + 4 ≤ 4 * j ∧ 1 ≤ j ∧ j ≤ l.length := by
  have hne : l ≠ [] := by
    rintro rfl
    unfold keyP at h
    rw [show isQ (([] : L8).headD 0) = false from rfl, if_neg Bool.false_ne_true] at h
    split at h
    · rename_i h9
      rw [Bool.and_eq_true] at h9
      exact absurd h9.2 (by decide)
    · cases h
  unfold keyP at h
  split at h
  · cases hs : scnP l with
    | none => rw [hs] at h; cases h
    | some p =>
      obtain ⟨t, n⟩ := p
      rw [hs] at h
      obtain ⟨g1, g2⟩ := scn_facts hs hne
      have h9 : (if (l.drop (n + blk (l.drop n))).headD 0 = 58 then some (t, n + blk (l.drop n) + 1) else none) = some (x, j) := h
      split at h9
      · rename_i h5
        injection h9 with h9
        injection h9 with h1 h2
        subst h1; subst h2
        have := wtx_len t
        have hlt : n + blk (l.drop n) < l.length := by
          rcases Nat.lt_or_ge (n + blk (l.drop n)) l.length with h | h
          · exact h
          · rw [List.drop_of_length_le h] at h5; exact absurd h5 (by decide)
        omega
      · cases h9
  · split at h
    · rename_i h5
      rw [Bool.and_eq_true] at h5
      injection h with h
      injection h with h1 h2
      subst h2
      have h6 := of_decide_eq_true h5.2
      have hlt : pln l < l.length := by
        rcases Nat.lt_or_ge (pln l) l.length with h | h
        · exact h
        · rw [List.drop_of_length_le h] at h6; exact absurd h6 (by decide)
      have hw : wtx (trm (l.take (pln l))) = trm (l.take (pln l)) := by unfold wtx; rw [if_pos h5.1]
      have := trm_le (l.take (pln l))
      rw [List.length_take] at this
      rw [← h1, hw]
      omega
    · cases h
theorem sort_once {l : List L8} (h : Once l) : (sortL l).length = l.length := by
  have hn : l.Nodup := List.pairwise_iff_getElem.2 fun i j hi hj hij => h i j hi hj hij
  have hs : (sortL l).Nodup := (sortL_asc l).imp fun {a b} hab e => by subst e; exact lt_irr _ hab
  have hp : (sortL l).Perm l := by
    refine List.perm_iff_count.2 fun x => ?_
    by_cases hx : x ∈ l
    · have h1 := List.nodup_iff_count.1 hs x
      have h2 := List.nodup_iff_count.1 hn x
      have h3 := List.count_pos_iff.2 hx
      have h4 := List.count_pos_iff.2 (mem_sortL.2 hx)
      omega
    · rw [List.count_eq_zero.2 hx, List.count_eq_zero.2 fun e => hx (mem_sortL.1 e)]
  exact hp.length_eq
theorem once_snoc {l : List L8} {x : L8} (h : Once l) (hx : x ∉ l) : Once (l ++ [x]) := by
  intro i j hi hj hij
  rw [List.length_append, List.length_singleton] at hi hj
  rw [List.getElem_append_left (by omega : i < l.length)]
  by_cases hjl : j < l.length
  · rw [List.getElem_append_left hjl]
    exact h i j (by omega) hjl hij
  · have e : (l ++ [x])[j]'(by rw [List.length_append, List.length_singleton]; exact hj) = x := by
      rw [List.getElem_append_right (by omega)]
      simp
    rw [e]
    exact fun e2 => hx (by rw [← e2]; exact List.getElem_mem _)
/-- What is known of a parsed value that takes m bytes. -/
def Got (d : Nd) (m : Nat) : Prop := Fine d ∧ cntT d ≤ m + 1 ∧ (wrT d).length ≤ 4 + 6 * m
theorem got_txt {t : L8} {m : Nat} (h : (wtx t).length ≤ 4 + 6 * m) : Got (txt t) m := by
  refine ⟨.mk (by decide) (by decide) (by simp [formB]) (fun h => by cases h) (fun d h => by cases h), by unfold txt; rw [cntT, cntL]; omega, ?_⟩
  unfold txt
  rw [wrT, if_neg (by decide), if_pos rfl]
  exact h
theorem got_nul (m : Nat) : Got nul m := by
  refine ⟨.mk (by decide) (by decide) (by simp [formB]) (fun h => by cases h) (fun d h => by cases h), by unfold nul; rw [cntT, cntL]; omega, ?_⟩
  unfold nul
  rw [wrT, if_pos rfl]
  show 4 ≤ 4 + 6 * m
  omega
/-- How long elements and entries are written, with what parts them. -/
def wl : List Nd → Nat
  | [] => 0
  | d :: ds => (wrT d).length + 2 + wl ds
def wlM : List L8 → List Nd → Nat
  | k :: ks, d :: ds => (wtx k).length + (wrT d).length + 4 + wlM ks ds
  | _, _ => 0
theorem wrSt_len : ∀ ds, (wrSt ds).length = wl ds
  | [] => rfl
  | d :: ds => by
    rw [wrSt, wl, List.length_append, List.length_cons, List.length_cons, wrSt_len ds]
theorem wrS_len (ds : List Nd) : (wrS ds).length ≤ wl ds := by
  cases ds with
  | nil => exact Nat.le_refl _
  | cons d ds => rw [wrS, wl, List.length_append, wrSt_len]; omega
theorem wrMt_len : ∀ (ks : List L8) (ds : List Nd), (wrMt ks ds).length = wlM ks ds
  | k :: ks, d :: ds => by
    rw [wrMt, wlM]
    simp only [List.length_append, List.length_cons]
    rw [wrMt_len ks ds]; omega
  | [], _ => by rw [show wrMt [] _ = [] by rw [wrMt]; intros; contradiction, show wlM [] _ = 0 by rw [wlM]; intros; contradiction]; rfl
  | _ :: _, [] => by rw [show wrMt (_ :: _) [] = [] by rw [wrMt]; intros; contradiction, show wlM (_ :: _) [] = 0 by rw [wlM]; intros; contradiction]; rfl
theorem wrM_len (ks : List L8) (ds : List Nd) : (wrM ks ds).length ≤ wlM ks ds := by
  match ks, ds with
  | k :: ks, d :: ds =>
    rw [wrM, wlM]
    simp only [List.length_append, List.length_cons]
    rw [wrMt_len]; omega
  | [], _ => rw [show wrM [] _ = [] by rw [wrM]; intros; contradiction]; exact Nat.zero_le _
  | _ :: _, [] => rw [show wrM (_ :: _) [] = [] by rw [wrM]; intros; contradiction]; exact Nat.zero_le _
/-- What a parsed rest of a sequence, of a map, is. -/
def GotS (acc : List Nd) (e : Nd) (m : Nat) : Prop := ∃ ds, e = .mk 2 [] [] (acc ++ ds) ∧ (∀ d ∈ ds, Fine d) ∧ cntL ds ≤ m ∧ wl ds ≤ 6 * m
def GotM (ak : List L8) (ad : List Nd) (e : Nd) (m : Nat) : Prop := ∃ ks ds, e = .mk 3 [] (ak ++ ks) (ad ++ ds) ∧ ks.length = ds.length ∧ (Once ak → Once (ak ++ ks)) ∧ (∀ d ∈ ds, Fine d) ∧ cntL ds ≤ m ∧ wlM ks ds ≤ 6 * m
theorem got_seq {e : Nd} {m : Nat} (h : GotS [] e m) : Got e (1 + m) := by
  obtain ⟨ds, rfl, h1, h2, h3⟩ := h
  rw [List.nil_append]
  refine ⟨.mk (by decide) (by decide) (by simp [formB]) (fun h => by cases h) h1, by rw [cntT]; omega, ?_⟩
  rw [wrT, if_neg (by decide), if_neg (by decide), if_neg (by decide)]
  have := wrS_len ds
  simp only [List.length_append, List.length_cons, List.length_nil]
  omega
theorem once_nil : Once [] := fun i j hi => absurd hi (Nat.not_lt_zero _)
theorem got_map {e : Nd} {m : Nat} (h : GotM [] [] e m) : Got e (1 + m) := by
  obtain ⟨ks, ds, rfl, h0, ho, h1, h2, h3⟩ := h
  have ho := ho once_nil
  rw [List.nil_append] at ho ⊢
  rw [List.nil_append]
  refine ⟨.mk (by decide) (by decide) (by simp [formB]) (fun _ => ⟨h0, sort_once ho⟩) h1, by rw [cntT]; omega, ?_⟩
  rw [wrT, if_neg (by decide), if_neg (by decide), if_pos rfl]
  have := wrM_len ks ds
  simp only [List.length_append, List.length_cons, List.length_nil]
  omega
theorem scl_got {l : L8} {d : Nd} {m : Nat} (h : sclP (trm (l.take m)) = some d) : Got d m := by
  unfold sclP at h
  split at h
  · injection h with h
    subst h
    exact got_nul m
  · split at h
    · rename_i h2
      injection h with h
      subst h
      refine got_txt ?_
      have hw : wtx (trm (l.take m)) = trm (l.take m) := by unfold wtx; rw [if_pos h2]
      rw [hw]
      have := trm_le (l.take m)
      rw [List.length_take] at this
      omega
    · cases h
theorem bump_some {o : Option (Nd × Nat)} {k : Nat} {d : Nd} {m : Nat} (h : o.map (bump k) = some (d, m)) : ∃ n, o = some (d, n) ∧ m = k + n := by
  cases o with
  | none => cases h
  | some p =>
    obtain ⟨e, n⟩ := p
    have h9 : some (e, k + n) = some (d, m) := h
    injection h9 with h9
    injection h9 with h1 h2
    subst h1
    exact ⟨n, rfl, h2.symm⟩
theorem val_facts : ∀ (N : Nat),
    (∀ (l : L8) (d : Nd) (m : Nat), 2 * l.length ≤ N → valP l = some (d, m) → m ≤ l.length ∧ Got d m) ∧
    (∀ (l : L8) (acc : List Nd) (e : Nd) (m : Nat), 2 * l.length + 1 ≤ N → rowP l acc = some (e, m) → m ≤ l.length ∧ GotS acc e m) ∧
    (∀ (l : L8) (ak : List L8) (ad : List Nd) (e : Nd) (m : Nat), 2 * l.length + 1 ≤ N → prsP l ak ad = some (e, m) → m ≤ l.length ∧ GotM ak ad e m) := by
  intro N
  induction N with
  | zero =>
    refine ⟨fun l d m hl h => ?_, fun l acc e m hl h => by omega, fun l ak ad e m hl h => by omega⟩
    obtain rfl : l = [] := List.length_eq_zero_iff.1 (by omega)
    rw [valP] at h
    injection h with h
    injection h with h1 h2
    subst h1; subst h2
    exact ⟨Nat.le_refl _, got_nul 0⟩
  | succ N ih =>
    obtain ⟨ihV, ihR, ihP⟩ := ih
    refine ⟨fun l d m hl h => ?_, fun l acc e m hl h => ?_, fun l ak ad e m hl h => ?_⟩
    · match l with
      | [] =>
        rw [valP] at h
        injection h with h
        injection h with h1 h2
        subst h1; subst h2
        exact ⟨Nat.le_refl _, got_nul 0⟩
      | c :: t =>
        rw [List.length_cons] at hl ⊢
        have hbt := blk_le t
        rw [valP] at h
        split at h
        · split at h
          · rename_i h5
            injection h with h
            injection h with h1 h2
            subst h1; subst h2
            have hlt : blk t < t.length := by
              rcases Nat.lt_or_ge (blk t) t.length with h | h
              · exact h
              · rw [List.drop_of_length_le h] at h5; exact absurd h5 (by decide)
            have hg : Got (.mk 2 [] [] []) (1 + (blk t + 1)) := got_seq ⟨[], rfl, fun d h => (by cases h), Nat.zero_le _, Nat.zero_le _⟩
            exact ⟨by omega, by rw [show blk t + 2 = 1 + (blk t + 1) by omega]; exact hg⟩
          · obtain ⟨n, h1, rfl⟩ := bump_some h
            obtain ⟨g1, g2⟩ := ihR t [] d n (by omega) h1
            exact ⟨by omega, got_seq g2⟩
        · split at h
          · split at h
            · rename_i h5
              injection h with h
              injection h with h1 h2
              subst h1; subst h2
              have hlt : blk t < t.length := by
                rcases Nat.lt_or_ge (blk t) t.length with h | h
                · exact h
                · rw [List.drop_of_length_le h] at h5; exact absurd h5 (by decide)
              have hg : Got (.mk 3 [] [] []) (1 + (blk t + 1)) := got_map ⟨[], [], rfl, rfl, fun _ => once_nil, fun d h => (by cases h), Nat.zero_le _, by rw [show wlM [] [] = 0 by rw [wlM]; intros; contradiction]; exact Nat.zero_le _⟩
              exact ⟨by omega, by rw [show blk t + 2 = 1 + (blk t + 1) by omega]; exact hg⟩
            · obtain ⟨n, h1, rfl⟩ := bump_some h
              obtain ⟨g1, g2⟩ := ihP t [] [] d n (by omega) h1
              exact ⟨by omega, got_map g2⟩
          · split at h
            · cases hs : scnP (c :: t) with
              | none => rw [hs] at h; cases h
              | some p =>
                obtain ⟨x, n⟩ := p
                rw [hs] at h
                have h9 : some (txt x, n) = some (d, m) := h
                injection h9 with h9
                injection h9 with h1 h2
                subst h1; subst h2
                obtain ⟨g1, g2⟩ := scn_facts hs (fun e => by cases e)
                rw [List.length_cons] at g2
                have := wtx_len x
                exact ⟨g2, got_txt (by omega)⟩
            · cases hs : sclP (trm ((c :: t).take (pln (c :: t)))) with
              | none => rw [hs] at h; cases h
              | some e =>
                rw [hs] at h
                have h9 : some (e, pln (c :: t)) = some (d, m) := h
                injection h9 with h9
                injection h9 with h1 h2
                subst h1; subst h2
                have := pln_le (c :: t)
                rw [List.length_cons] at this
                exact ⟨this, scl_got hs⟩
    · rw [rowP] at h
      have hbl := blk_le l
      cases hv : valP (l.drop (blk l)) with
      | none => rw [hv] at h; cases h
      | some p =>
        obtain ⟨v, m1⟩ := p
        rw [hv] at h
        obtain ⟨g1, g2, g3, g4⟩ := ihV _ v m1 (by rw [List.length_drop]; omega) hv
        rw [List.length_drop] at g1
        have hb2 := blk_le (l.drop (blk l + m1))
        rw [List.length_drop] at hb2
        have h : (if m1 = 0 then none else match _h : l.drop (blk l + m1 + blk (l.drop (blk l + m1))) with
          | [] => none
          | c :: t => if c = 93 then some (.mk 2 [] [] (acc ++ [v]), blk l + m1 + blk (l.drop (blk l + m1)) + 1) else if c = 44 then (rowP t (acc ++ [v])).map (bump (blk l + m1 + blk (l.drop (blk l + m1)) + 1)) else none) = some (e, m) := h
        split at h
        · cases h
        · split at h
          · cases h
          · rename_i c t h9
            have hlen : t.length + 1 = l.length - (blk l + m1 + blk (l.drop (blk l + m1))) := by
              have : (l.drop (blk l + m1 + blk (l.drop (blk l + m1)))).length = t.length + 1 := by rw [h9]; rfl
              rw [List.length_drop] at this
              omega
            have hone : GotS acc (.mk 2 [] [] (acc ++ [v])) (blk l + m1 + blk (l.drop (blk l + m1)) + 1) := ⟨[v], rfl, fun d hd => (by rw [List.mem_singleton] at hd; subst hd; exact g2), (by rw [cntL, cntL]; omega), (by rw [wl, wl]; omega)⟩
            split at h
            · injection h with h
              injection h with h1 h2
              subst h1; subst h2
              exact ⟨by omega, hone⟩
            · split at h
              · obtain ⟨n, h1, rfl⟩ := bump_some h
                obtain ⟨k1, ds, rfl, k2, k3, k4⟩ := ihR t (acc ++ [v]) e n (by omega) h1
                refine ⟨by omega, v :: ds, by simp, fun d hd => ?_, by rw [cntL]; omega, by rw [wl]; omega⟩
                rcases List.mem_cons.1 hd with rfl | hd
                · exact g2
                · exact k2 d hd
              · cases h
    · rw [prsP] at h
      have hbl := blk_le l
      split at h
      · cases h
      · rename_i x j hk
        obtain ⟨q1, q2, q3⟩ := key_facts hk
        rw [List.length_drop] at q3
        split at h
        · cases h
        · rename_i hx
          have hb1 := blk_le (l.drop (blk l + j))
          rw [List.length_drop] at hb1
          obtain ⟨a, ha⟩ : ∃ a, blk l + j + blk (l.drop (blk l + j)) = a := ⟨_, rfl⟩
          rw [ha] at h
          cases hv : valP (l.drop a) with
          | none => rw [hv] at h; cases h
          | some p =>
            obtain ⟨v, m1⟩ := p
            rw [hv] at h
            obtain ⟨g1, g2, g3, g4⟩ := ihV _ v m1 (by rw [List.length_drop]; omega) hv
            rw [List.length_drop] at g1
            have hb2 := blk_le (l.drop (a + m1))
            rw [List.length_drop] at hb2
            have h : (match _h : l.drop (a + m1 + blk (l.drop (a + m1))) with
              | [] => none
              | c :: t => if c = 125 then some (.mk 3 [] (ak ++ [x]) (ad ++ [v]), a + m1 + blk (l.drop (a + m1)) + 1) else if c = 44 then (prsP t (ak ++ [x]) (ad ++ [v])).map (bump (a + m1 + blk (l.drop (a + m1)) + 1)) else none) = some (e, m) := h
            split at h
            · cases h
            · rename_i c t h9
              have hlen : t.length + 1 = l.length - (a + m1 + blk (l.drop (a + m1))) := by
                have : (l.drop (a + m1 + blk (l.drop (a + m1)))).length = t.length + 1 := by rw [h9]; rfl
                rw [List.length_drop] at this
                omega
              split at h
              · injection h with h
                injection h with h1 h2
                subst h1; subst h2
                refine ⟨by omega, [x], [v], rfl, rfl, fun ho => once_snoc ho hx, fun d hd => (by rw [List.mem_singleton] at hd; subst hd; exact g2), by rw [cntL, cntL]; omega, ?_⟩
                rw [wlM, show wlM [] [] = 0 by rw [wlM]; intros; contradiction]
                omega
              · split at h
                · obtain ⟨n, h1, rfl⟩ := bump_some h
                  obtain ⟨k1, ks, ds, rfl, k0, ko, k2, k3, k4⟩ := ihP t (ak ++ [x]) (ad ++ [v]) e n (by omega) h1
                  refine ⟨by omega, x :: ks, v :: ds, by simp, by rw [List.length_cons, List.length_cons, k0], fun ho => ?_, fun d hd => ?_, by rw [cntL]; omega, by rw [wlM]; omega⟩
                  · have := ko (once_snoc ho hx)
                    rwa [List.append_assoc] at this
                  · rcases List.mem_cons.1 hd with rfl | hd
                    · exact g2
                    · exact k2 d hd
                · cases h
theorem val_got {l : L8} {d : Nd} {m : Nat} (h : valP l = some (d, m)) : m ≤ l.length ∧ Got d m := (val_facts _).1 l d m (Nat.le_refl _) h
theorem par_got {l : L8} {d : Nd} (h : parP l = some d) : Fine d ∧ cntT d ≤ l.length + 1 ∧ (wrT d).length ≤ 4 + 6 * l.length := by
  unfold parP at h
  cases hv : valP (l.drop (blk l)) with
  | none => rw [hv] at h; cases h
  | some p =>
    obtain ⟨v, m⟩ := p
    rw [hv] at h
    obtain ⟨g1, g2, g3, g4⟩ := val_got hv
    rw [List.length_drop] at g1
    have h9 : (if (l.drop (blk l + m)).length = blk (l.drop (blk l + m)) then some v else none) = some d := h
    split at h9
    · injection h9 with h9
      subst h9
      exact ⟨g2, by omega, by omega⟩
    · cases h9
mutual
/-- How long a node of short texts is written. -/
theorem short_len : ∀ (d : Nd), shortT d = true → (wrT d).length + 806 ≤ 1608 * cntT d
  | .mk k t ks ds, h => by
    rw [shortT, Bool.and_eq_true, Bool.and_eq_true] at h
    have ht := of_decide_eq_true h.1.1
    have hk := List.all_eq_true.1 h.1.2
    have hw := wtx_len t
    have h1 := short_lenS ds h.2
    have h2 := short_lenM ks ds (fun k hm => of_decide_eq_true (hk k hm)) h.2
    have h3 := wrS_len ds
    have h4 := wrM_len ks ds
    rw [wrT, cntT]
    split
    · simp only [List.length_cons, List.length_nil]; omega
    · split
      · omega
      · split
        · simp only [List.length_append, List.length_cons, List.length_nil]; omega
        · simp only [List.length_append, List.length_cons, List.length_nil]; omega
theorem short_lenS : ∀ (ds : List Nd), shortL ds = true → wl ds ≤ 1608 * cntL ds
  | [], _ => Nat.zero_le _
  | d :: ds, h => by
    rw [shortL, Bool.and_eq_true] at h
    have h1 := short_len d h.1
    have h2 := short_lenS ds h.2
    rw [wl, cntL]; omega
theorem short_lenM : ∀ (ks : List L8) (ds : List Nd), (∀ k ∈ ks, k.length ≤ 200) → shortL ds = true → wlM ks ds ≤ 1608 * cntL ds
  | k :: ks, d :: ds, hk, h => by
    rw [shortL, Bool.and_eq_true] at h
    have h1 := short_len d h.1
    have h2 := short_lenM ks ds (fun x hx => hk x (List.mem_cons_of_mem _ hx)) h.2
    have h3 := hk k (List.mem_cons_self ..)
    have h4 := wtx_len k
    rw [wlM, cntL]; omega
  | [], ds, _, _ => by rw [show wlM [] ds = 0 by rw [wlM]; intros; contradiction]; exact Nat.zero_le _
  | _ :: _, [], _, _ => by rw [show wlM (_ :: _) [] = 0 by rw [wlM]; intros; contradiction]; exact Nat.zero_le _
end
/-- Written and parsed again: a valid node. -/
theorem parV_back {d : Nd} (h : okT 2000 d = true) (a b : Nat) : parV (spc a ++ (wrT d ++ spc b)) = d := by
  unfold parV
  rw [parP_back (ok_iff.1 h).1 a b]
  show (if okT 2000 d then d else nul) = d
  rw [if_pos h]
end F9
end Go.Proofs.YtemndagaicamiaaGreatDoor
namespace Go.Proofs.YtemndagaicamiaaGreatDoor
namespace F9
open Nw N8 Q6
set_option linter.unusedVariables false
theorem wrSt_snoc : ∀ {ds : List Nd} {j : Nat} (h : j < ds.length), wrSt (ds.take (j + 1)) = wrSt (ds.take j) ++ (44 :: 32 :: wrT (ds[j]'h))
  | d :: ds, 0, _ => by
    show wrSt [d] = wrSt [] ++ (44 :: 32 :: wrT d)
    simp [wrSt]
  | d :: ds, j + 1, h => by
    rw [List.take_succ_cons, List.take_succ_cons, wrSt, wrSt, wrSt_snoc (Nat.lt_of_succ_lt_succ h)]
    simp
theorem wrS_snoc {ds : List Nd} {j : Nat} (h : j < ds.length) : wrS (ds.take (j + 1)) = wrS (ds.take j) ++ ((if j = 0 then [] else [44, 32]) ++ wrT (ds[j]'h)) := by
  cases ds with
  | nil => cases h
  | cons d ds =>
    cases j with
    | zero =>
      show wrS [d] = wrS [] ++ ([] ++ wrT d)
      rw [wrS, wrS, wrSt, List.append_nil]; rfl
    | succ j =>
      rw [List.take_succ_cons, List.take_succ_cons, wrS, wrS, wrSt_snoc (Nat.lt_of_succ_lt_succ h), if_neg (by omega)]
      simp
theorem wrSt_take : ∀ (ds : List Nd) (j : Nat), (wrSt (ds.take j)).length ≤ (wrSt ds).length
  | [], j => by rw [List.take_nil]; exact Nat.le_refl _
  | d :: ds, 0 => Nat.zero_le _
  | d :: ds, j + 1 => by
    rw [List.take_succ_cons, wrSt, wrSt, List.length_append, List.length_append]
    have := wrSt_take ds j
    omega
theorem wrS_take (ds : List Nd) (j : Nat) : (wrS (ds.take j)).length ≤ (wrS ds).length := by
  cases ds with
  | nil => rw [List.take_nil]; exact Nat.le_refl _
  | cons d ds =>
    cases j with
    | zero => exact Nat.zero_le _
    | succ j =>
      rw [List.take_succ_cons, wrS, wrS, List.length_append, List.length_append]
      have := wrSt_take ds j
      omega
/-- The lengths at one step. -/
theorem wrS_step {ds : List Nd} {j : Nat} (h : j < ds.length) : (wrS (ds.take j)).length + (wrT (ds[j]'h)).length ≤ (wrS ds).length := by
  have h1 := wrS_snoc h
  have h2 := wrS_take ds (j + 1)
  rw [h1] at h2
  simp only [List.length_append] at h2
  omega
theorem wrMt_snoc : ∀ {ks : List L8} {ds : List Nd} {j : Nat} (h : j < ks.length) (g : j < ds.length), wrMt (ks.take (j + 1)) (ds.take (j + 1)) = wrMt (ks.take j) (ds.take j) ++ (44 :: 32 :: wtx (ks[j]'h) ++ 58 :: 32 :: wrT (ds[j]'g))
  | k :: ks, d :: ds, 0, _, _ => by
    have e : ∀ l : List Nd, wrMt [] l = [] := fun l => by rw [wrMt]; intros; contradiction
    show wrMt [k] [d] = wrMt [] [] ++ _
    rw [wrMt, e, List.append_nil]; rfl
  | k :: ks, d :: ds, j + 1, h, g => by
    rw [List.take_succ_cons, List.take_succ_cons, List.take_succ_cons, List.take_succ_cons, wrMt, wrMt, wrMt_snoc (Nat.lt_of_succ_lt_succ h) (Nat.lt_of_succ_lt_succ g)]
    simp
theorem wrM_snoc {ks : List L8} {ds : List Nd} {j : Nat} (h : j < ks.length) (g : j < ds.length) : wrM (ks.take (j + 1)) (ds.take (j + 1)) = wrM (ks.take j) (ds.take j) ++ ((if j = 0 then [] else [44, 32]) ++ (wtx (ks[j]'h) ++ ([58, 32] ++ wrT (ds[j]'g)))) := by
  match ks, ds, j with
  | k :: ks, d :: ds, 0 =>
    have e : ∀ l : List Nd, wrMt [] l = [] := fun l => by rw [wrMt]; intros; contradiction
    have e2 : wrM [] [] = [] := by rw [wrM]; intros; contradiction
    show wrM [k] [d] = wrM [] [] ++ _
    rw [wrM, e2, e, List.append_nil]; rfl
  | k :: ks, d :: ds, j + 1 =>
    rw [List.take_succ_cons, List.take_succ_cons, List.take_succ_cons, List.take_succ_cons, wrM, wrM, wrMt_snoc (Nat.lt_of_succ_lt_succ h) (Nat.lt_of_succ_lt_succ g), if_neg (by omega)]
    simp
theorem wrMt_take : ∀ (ks : List L8) (ds : List Nd) (j : Nat), (wrMt (ks.take j) (ds.take j)).length ≤ (wrMt ks ds).length
  | k :: ks, d :: ds, 0 => by rw [List.take_zero, List.take_zero, show wrMt [] [] = [] by rw [wrMt]; intros; contradiction]; exact Nat.zero_le _
  | k :: ks, d :: ds, j + 1 => by
    rw [List.take_succ_cons, List.take_succ_cons, wrMt, wrMt, List.length_append, List.length_append]
    simp only [List.length_append, List.length_cons]
    have := wrMt_take ks ds j
    omega
  | [], ds, j => by rw [List.take_nil, show wrMt [] (ds.take j) = [] by rw [wrMt]; intros; contradiction]; exact Nat.zero_le _
  | k :: ks, [], j => by rw [List.take_nil, show wrMt ((k :: ks).take j) [] = [] by cases j <;> (rw [wrMt]; intros; contradiction)]; exact Nat.zero_le _
theorem wrM_take (ks : List L8) (ds : List Nd) (j : Nat) : (wrM (ks.take j) (ds.take j)).length ≤ (wrM ks ds).length := by
  match ks, ds, j with
  | k :: ks, d :: ds, 0 => rw [List.take_zero, List.take_zero, show wrM [] [] = [] by rw [wrM]; intros; contradiction]; exact Nat.zero_le _
  | k :: ks, d :: ds, j + 1 =>
    rw [List.take_succ_cons, List.take_succ_cons, wrM, wrM]
    simp only [List.length_append, List.length_cons]
    have := wrMt_take ks ds j
    omega
  | [], ds, j => rw [List.take_nil, show wrM [] (ds.take j) = [] by rw [wrM]; intros; contradiction]; exact Nat.zero_le _
  | k :: ks, [], j => rw [List.take_nil, show wrM ((k :: ks).take j) [] = [] by cases j <;> (rw [wrM]; intros; contradiction)]; exact Nat.zero_le _
theorem wrM_step {ks : List L8} {ds : List Nd} {j : Nat} (h : j < ks.length) (g : j < ds.length) : (wrM (ks.take j) (ds.take j)).length + (wtx (ks[j]'h)).length + (wrT (ds[j]'g)).length + 2 ≤ (wrM ks ds).length := by
  have h1 := wrM_snoc h g
  have h2 := wrM_take ks ds (j + 1)
  rw [h1] at h2
  simp only [List.length_append, List.length_cons, List.length_nil] at h2
  omega
theorem wrT_seq (t : L8) (ks : List L8) (ds : List Nd) : wrT (.mk 2 t ks ds) = 91 :: wrS ds ++ [93] := by rw [wrT, if_neg (by decide), if_neg (by decide), if_neg (by decide)]
theorem wrT_map (t : L8) (ks : List L8) (ds : List Nd) : wrT (.mk 3 t ks ds) = 123 :: wrM ks ds ++ [125] := by rw [wrT, if_neg (by decide), if_neg (by decide), if_pos rfl]
theorem wtx_ge (t : L8) : t.length ≤ (wtx t).length := by
  have key : ∀ l : L8, l.length ≤ (escL l).length := by
    intro l
    induction l with
    | nil => exact Nat.le_refl _
    | cons c l ih =>
      have h1 : 1 ≤ (esc c).length := by
        unfold esc
        repeat' split
        all_goals simp
      rw [escL_cons, List.length_append, List.length_cons]
      omega
  unfold wtx
  split
  · exact Nat.le_refl _
  · unfold dblL
    have := key t
    simp only [List.length_append, List.length_cons, List.length_nil]
    omega
end F9
end Go.Proofs.YtemndagaicamiaaGreatDoor
namespace Go.Proofs.YtemndagaicamiaaGreatDoor
namespace F9
open Nw N8 Q6
/-- A scalar, in a collection (row) or not. -/
def sclS (row : Bool) (l : L8) : Option Nd :=
  if bad3 l then some nul
  else if isQ (l.headD 0) && decide ((scnP l).map (·.2) = some l.length) then (scnP l).map fun p => txt p.1
  else if (if row then rowB l else plainB l) then some (txt l) else none
/-- What Parse answers: the error's number, the node. -/
def parE (P : Option Nd) : Int := match P with | none => 3 | some d => if okT 2000 d then 0 else 9
def parD (P : Option Nd) : Nd := match P with | none => nul | some d => if okT 2000 d then d else nul
theorem par_no {d : Nd} (h : okT 2000 d = false) : 9 = parE (some d) ∧ nul = parD (some d) :=
  ⟨(if_neg (show ¬ okT 2000 d = true by rw [h]; decide)).symm, (if_neg (show ¬ okT 2000 d = true by rw [h]; decide)).symm⟩
theorem par_yes {d : Nd} (h : okT 2000 d = true) : 0 = parE (some d) ∧ d = parD (some d) := ⟨(if_pos h).symm, (if_pos h).symm⟩
end F9
end Go.Proofs.YtemndagaicamiaaGreatDoor
namespace Go.Proofs.YtemndagaicamiaaGreatDoor
namespace F9
open Nw N8 Q6
set_option linter.unusedVariables false
theorem den_pre (l r : L8) {m : Nat} (h : (den l).2 = m) (hm : m ≠ 0) : den (l.take m ++ r) = den l := by
  cases l with
  | nil => exact absurd h.symm hm
  | cons c t =>
    rw [den_cons] at h ⊢
    by_cases hc : c = 92
    · rw [if_pos hc] at h
      cases t with
      | nil => exact absurd h.symm hm
      | cons d u =>
        rw [denB_cons] at h
        have two : ∀ v : UInt8 × Nat, v.2 = 2 → m = 2 → den ((c :: d :: u).take m ++ r) = denB (d :: r) := by
          intro v hv h2
          subst h2
          show den (c :: d :: r) = _
          rw [den_cons, if_pos hc]
        rw [if_pos hc, denB_cons]
        split at h
        · rename_i h1
          rw [two (d, 2) rfl h.symm, denB_cons, if_pos h1, if_pos h1]
        · rename_i h1
          split at h
          · rename_i h2
            rw [two (10, 2) rfl h.symm, denB_cons, if_neg h1, if_pos h2, if_neg h1, if_pos h2]
          · rename_i h2
            split at h
            · rename_i h3
              rw [two (9, 2) rfl h.symm, denB_cons, if_neg h1, if_neg h2, if_pos h3, if_neg h1, if_neg h2, if_pos h3]
            · rename_i h3
              split at h
              · rename_i h4
                match u, h with
                | [], h => exact absurd h.symm hm
                | [a], h => exact absurd h.symm hm
                | a :: b :: u, h =>
                  rw [denX_two] at h
                  split at h
                  · rename_i h5
                    have h6 : m = 4 := h.symm
                    subst h6
                    show den (c :: d :: a :: b :: r) = _
                    rw [den_cons, if_pos hc, denB_cons, if_neg h1, if_neg h2, if_neg h3, if_pos h4, denX_two, if_pos h5, if_neg h1, if_neg h2, if_neg h3, if_pos h4, denX_two, if_pos h5]
                  · exact absurd h.symm hm
              · exact absurd h.symm hm
    · rw [if_neg hc] at h
      split at h
      · rename_i hg
        have h6 : m = 1 := h.symm
        subst h6
        show den (c :: r) = _
        rw [den_cons, if_neg hc, if_pos hg, if_neg hc]
      · exact absurd h.symm hm
theorem scD_pre : ∀ (N : Nat) (l : L8), l.length ≤ N → ∀ v n, scD l = some (v, n) → (∀ r, scD (l.take n ++ r) = some (v, n)) ∧ l.getD (n - 1) 0 = 34
  | _, [], _, v, n, h => by rw [scD_nil] at h; cases h
  | 0, c :: l, h, _, _, _ => by cases h
  | N + 1, c :: t, hN, v, n, h => by
    rw [List.length_cons] at hN
    by_cases hc : c = 34
    · subst hc
      rw [scD_end] at h
      injection h with h
      injection h with h1 h2
      subst h1; subst h2
      exact ⟨fun r => scD_end _, rfl⟩
    · by_cases hd : (den (c :: t)).2 = 0
      · rw [scD_bad hc hd] at h; cases h
      · obtain ⟨b, m, hbm⟩ : ∃ b m, den (c :: t) = (b, m) := ⟨_, _, rfl⟩
        have hm : m ≠ 0 := fun e => hd (by rw [hbm]; exact e)
        have hle : m ≤ (c :: t).length := by have := den_len (c :: t); rw [hbm] at this; exact this
        rw [List.length_cons] at hle
        rw [scD_next hc hbm hm] at h
        cases hs : scD ((c :: t).drop m) with
        | none => rw [hs] at h; cases h
        | some p =>
          obtain ⟨v1, n1⟩ := p
          rw [hs] at h
          have hl1 : ((c :: t).drop m).length ≤ N := by rw [List.length_drop, List.length_cons]; omega
          obtain ⟨h1, h2⟩ := scD_pre N _ hl1 v1 n1 hs
          obtain ⟨g1, g2⟩ := scD_facts N _ hl1 v1 n1 hs
          have h9 : some (b :: v1, m + n1) = some (v, n) := h
          injection h9 with h9
          injection h9 with e1 e2
          subst e1; subst e2
          refine ⟨fun r => ?_, ?_⟩
          · have e : (c :: t).take (m + n1) ++ r = (c :: t).take m ++ (((c :: t).drop m).take n1 ++ r) := by
              rw [← List.append_assoc, ← List.take_add]
            have hp := den_pre (c :: t) (((c :: t).drop m).take n1 ++ r) (by rw [hbm]) hm
            rw [hbm] at hp
            rw [e]
            have hmp : ∃ m', m = m' + 1 := ⟨m - 1, by omega⟩
            obtain ⟨m', rfl⟩ := hmp
            rw [List.take_succ_cons, List.cons_append] at hp ⊢
            rw [scD_next hc hp hm]
            have e2 : (c :: (t.take m' ++ (((c :: t).drop (m' + 1)).take n1 ++ r))).drop (m' + 1) = ((c :: t).drop (m' + 1)).take n1 ++ r := by
              rw [List.drop_succ_cons, List.drop_left' (by rw [List.length_take]; omega)]
            rw [e2, h1 r]
            rfl
          · rw [← h2, List.getD_eq_getElem?_getD, List.getD_eq_getElem?_getD, List.getElem?_drop]
            congr 2
            omega
theorem scS_pre : ∀ (N : Nat) (l : L8), l.length ≤ N → ∀ v n, scS l = some (v, n) → (∀ r : L8, r.headD 0 ≠ 39 → scS (l.take n ++ r) = some (v, n)) ∧ l.getD (n - 1) 0 = 39
  | _, [], _, v, n, h => by cases h
  | 0, c :: l, h, _, _, _ => by cases h
  | N + 1, [c], hN, v, n, h => by
    unfold scS at h
    split at h
    · rename_i hc
      subst hc
      injection h with h
      injection h with h1 h2
      subst h1; subst h2
      refine ⟨fun r hr => ?_, rfl⟩
      cases r with
      | nil => show scS [39] = _; unfold scS; rw [if_pos rfl]
      | cons d r => show scS (39 :: d :: r) = _; rw [scS, if_pos (by decide), if_pos rfl, if_neg (show ¬ d = 39 from hr)]
    · cases h
  | N + 1, c :: d :: t, hN, v, n, h => by
    rw [List.length_cons, List.length_cons] at hN
    rw [scS] at h
    split at h
    · rename_i hg
      split at h
      · rename_i hc
        subst hc
        split at h
        · rename_i hd
          subst hd
          cases hs : scS t with
          | none => rw [hs] at h; cases h
          | some p =>
            obtain ⟨v1, n1⟩ := p
            rw [hs] at h
            have h9 : some ([39] ++ v1, 2 + n1) = some (v, n) := h
            injection h9 with h9
            injection h9 with e1 e2
            subst e1; subst e2
            obtain ⟨h1, h2⟩ := scS_pre N t (by omega) v1 n1 hs
            obtain ⟨g1, g2⟩ := scS_facts N t (by omega) v1 n1 hs
            refine ⟨fun r hr => ?_, ?_⟩
            · rw [show 2 + n1 = n1 + 1 + 1 by omega, List.take_succ_cons, List.take_succ_cons]
              show scS (39 :: 39 :: (t.take n1 ++ r)) = _
              rw [scS, if_pos hg, if_pos rfl, if_pos rfl, h1 r hr]
              show some ([39] ++ v1, 2 + n1) = _
              rw [Nat.add_comm 2 n1]
            · rw [← h2, show 2 + n1 - 1 = n1 - 1 + 1 + 1 by omega]
              rfl
        · rename_i hd
          injection h with h
          injection h with h1 h2
          subst h1; subst h2
          refine ⟨fun r hr => ?_, rfl⟩
          cases r with
          | nil => show scS [39] = _; unfold scS; rw [if_pos rfl]
          | cons e r => show scS (39 :: e :: r) = _; rw [scS, if_pos (by decide), if_pos rfl, if_neg (show ¬ e = 39 from hr)]
      · rename_i hc
        cases hs : scS (d :: t) with
        | none => rw [hs] at h; cases h
        | some p =>
          obtain ⟨v1, n1⟩ := p
          rw [hs] at h
          have h9 : some ([c] ++ v1, 1 + n1) = some (v, n) := h
          injection h9 with h9
          injection h9 with e1 e2
          subst e1; subst e2
          obtain ⟨h1, h2⟩ := scS_pre N (d :: t) (by rw [List.length_cons]; omega) v1 n1 hs
          obtain ⟨g1, g2⟩ := scS_facts N (d :: t) (by rw [List.length_cons]; omega) v1 n1 hs
          obtain ⟨n2, rfl⟩ : ∃ n2, n1 = n2 + 1 := ⟨n1 - 1, by omega⟩
          refine ⟨fun r hr => ?_, ?_⟩
          · have h3 := h1 r hr
            rw [List.take_succ_cons, List.cons_append] at h3
            rw [show 1 + (n2 + 1) = n2 + 1 + 1 by omega, List.take_succ_cons, List.take_succ_cons]
            show scS (c :: d :: (t.take n2 ++ r)) = _
            rw [scS, if_pos hg, if_neg hc, h3]
            show some ([c] ++ v1, 1 + (n2 + 1)) = _
            rw [Nat.add_comm 1]
          · rw [← h2, show 1 + (n2 + 1) - 1 = n2 + 1 by omega]
            rfl
    · cases h
/-- A quoted text's scan: what is quoted, how long it is; whatever follows but a quote. -/
theorem scn_pre {c : UInt8} {t v : L8} {n : Nat} (hq : isQ c = true) (h : scnP (c :: t) = some (v, n)) :
    (∀ r : L8, r.headD 0 ≠ 39 → scnP ((c :: t).take n ++ r) = some (v, n)) ∧ isQ ((c :: t).getD (n - 1) 0) = true ∧ 2 ≤ n := by
  obtain ⟨f1, f2⟩ := scn_facts h (by simp)
  unfold scnP scanR at h ⊢
  have hd : (c :: t).drop (0 + 1) = t := rfl
  by_cases hc : c = 34
  · rw [if_pos (show (c :: t).getD 0 0 = 34 from hc)] at h
    unfold atD at h
    rw [hd] at h
    cases hs : scD t with
    | none => rw [hs] at h; cases h
    | some p =>
      obtain ⟨v1, n1⟩ := p
      rw [hs] at h
      have h9 : some ([] ++ v1, 0 + 1 + n1) = some (v, n) := h
      injection h9 with h9
      injection h9 with e1 e2
      subst e1; subst e2
      obtain ⟨h1, h2⟩ := scD_pre t.length t (Nat.le_refl _) v1 n1 hs
      obtain ⟨g1, g2⟩ := scD_facts t.length t (Nat.le_refl _) v1 n1 hs
      refine ⟨fun r hr => ?_, ?_, by omega⟩
      · rw [show 0 + 1 + n1 = n1 + 1 by omega, List.take_succ_cons, List.cons_append, if_pos (show (c :: (t.take n1 ++ r)).getD 0 0 = 34 from hc)]
        unfold atD
        rw [show (c :: (t.take n1 ++ r)).drop (0 + 1) = t.take n1 ++ r from rfl, h1 r]
        show some ([] ++ v1, 0 + 1 + n1) = _
        rw [show 0 + 1 + n1 = n1 + 1 by omega]
      · rw [show 0 + 1 + n1 - 1 = (n1 - 1) + 1 by omega]
        show isQ (t.getD (n1 - 1) 0) = true
        rw [h2]; rfl
  · rw [if_neg (show ¬ (c :: t).getD 0 0 = 34 from hc)] at h
    unfold atS at h
    rw [hd] at h
    cases hs : scS t with
    | none => rw [hs] at h; cases h
    | some p =>
      obtain ⟨v1, n1⟩ := p
      rw [hs] at h
      have h9 : some ([] ++ v1, 0 + 1 + n1) = some (v, n) := h
      injection h9 with h9
      injection h9 with e1 e2
      subst e1; subst e2
      obtain ⟨h1, h2⟩ := scS_pre t.length t (Nat.le_refl _) v1 n1 hs
      obtain ⟨g1, g2⟩ := scS_facts t.length t (Nat.le_refl _) v1 n1 hs
      refine ⟨fun r hr => ?_, ?_, by omega⟩
      · rw [show 0 + 1 + n1 = n1 + 1 by omega, List.take_succ_cons, List.cons_append, if_neg (show ¬ (c :: (t.take n1 ++ r)).getD 0 0 = 34 from hc)]
        unfold atS
        rw [show (c :: (t.take n1 ++ r)).drop (0 + 1) = t.take n1 ++ r from rfl, h1 r hr]
        show some ([] ++ v1, 0 + 1 + n1) = _
        rw [show 0 + 1 + n1 = n1 + 1 by omega]
      · rw [show 0 + 1 + n1 - 1 = (n1 - 1) + 1 by omega]
        show isQ (t.getD (n1 - 1) 0) = true
        rw [h2]; rfl
end F9
end Go.Proofs.YtemndagaicamiaaGreatDoor
namespace Go.Proofs.YtemndagaicamiaaGreatDoor
namespace F9
open Nw N8 Q6
set_option linter.unusedVariables false
theorem blk_idem (l : L8) : blk (l.drop (blk l)) = 0 := by
  induction l with
  | nil => rfl
  | cons c l ih =>
    by_cases hc : c = 32
    · rw [blk_cons, if_pos hc]; exact ih
    · rw [blk_no hc]; exact blk_no hc
/-- The rest of a sequence, of a map, behind its bracket. -/
def rowR (t : L8) : Option (Nd × Nat) := if (t.drop (blk t)).headD 0 = 93 then some (.mk 2 [] [] [], blk t + 1) else rowP t []
def prsR (t : L8) : Option (Nd × Nat) := if (t.drop (blk t)).headD 0 = 125 then some (.mk 3 [] [] [], blk t + 1) else prsP t [] []
theorem val_row (t : L8) : valP (91 :: t) = (rowR t).map (bump 1) := by
  rw [valP, if_pos rfl]
  unfold rowR
  split
  · show some _ = some _
    simp only [bump]
    congr 2
    omega
  · rfl
theorem val_prs (t : L8) : valP (123 :: t) = (prsR t).map (bump 1) := by
  rw [valP, if_neg (by decide), if_pos rfl]
  unfold prsR
  split
  · show some _ = some _
    simp only [bump]
    congr 2
    omega
  · rfl
theorem row_eq {d : Nd} {l : L8} {acc : List Nd} {m n : Nat} (h : valP (l.drop (blk l)) = some (d, m)) (hm : m ≠ 0) (hn : blk l + m + blk (l.drop (blk l + m)) = n) :
    rowP l acc = if (l.drop n).headD 0 = 93 then some (.mk 2 [] [] (acc ++ [d]), n + 1) else if (l.drop n).headD 0 = 44 then (rowP (l.drop (n + 1)) (acc ++ [d])).map (bump (n + 1)) else none := by
  subst hn
  rw [rowP, h]
  show (if m = 0 then none else _) = _
  rw [if_neg hm]
  split
  · rename_i h9
    rw [h9]
    rfl
  · rename_i c t h9
    have e : l.drop (blk l + m + blk (l.drop (blk l + m)) + 1) = t := by rw [← List.drop_drop, h9]; rfl
    rw [h9, e]
    rfl
theorem row_none {l : L8} {acc : List Nd} (h : valP (l.drop (blk l)) = none) : rowP l acc = none := by rw [rowP, h]
theorem row_zero {d : Nd} {l : L8} {acc : List Nd} (h : valP (l.drop (blk l)) = some (d, 0)) : rowP l acc = none := by rw [rowP, h]; exact if_pos rfl
theorem bump_bump (o : Option (Nd × Nat)) (a b : Nat) : (o.map (bump a)).map (bump b) = o.map (bump (b + a)) := by
  cases o with
  | none => rfl
  | some p => show some _ = some _; simp only [bump]; congr 2; omega
/-- The same at the place j of a whole text; the place behind it is the text's. -/
def rowA (l : L8) (j : Nat) (acc : List Nd) : Option (Nd × Nat) := (rowP (l.drop j) acc).map (bump j)
theorem drop_at {l : L8} {j j0 : Nat} (h0 : j + blk (l.drop j) = j0) : (l.drop j).drop (blk (l.drop j)) = l.drop j0 := by rw [List.drop_drop, h0]
theorem rowA_none {l : L8} {j j0 : Nat} {acc : List Nd} (h0 : j + blk (l.drop j) = j0) (h : valP (l.drop j0) = none) : rowA l j acc = none := by
  unfold rowA
  rw [row_none (by rw [drop_at h0]; exact h)]; rfl
theorem rowA_zero {l : L8} {j j0 : Nat} {acc : List Nd} {d : Nd} (h0 : j + blk (l.drop j) = j0) (h : valP (l.drop j0) = some (d, 0)) : rowA l j acc = none := by
  unfold rowA
  rw [row_zero (by rw [drop_at h0]; exact h)]; rfl
theorem rowA_eq {l : L8} {j j0 j2 : Nat} {acc : List Nd} {d : Nd} {m : Nat} (h0 : j + blk (l.drop j) = j0) (h : valP (l.drop j0) = some (d, m)) (hm : m ≠ 0) (h2 : j0 + m + blk (l.drop (j0 + m)) = j2) :
    rowA l j acc = if (l.drop j2).headD 0 = 93 then some (.mk 2 [] [] (acc ++ [d]), j2 + 1) else if (l.drop j2).headD 0 = 44 then rowA l (j2 + 1) (acc ++ [d]) else none := by
  unfold rowA
  have e1 : (l.drop j).drop (blk (l.drop j) + m) = l.drop (j0 + m) := by rw [List.drop_drop, ← Nat.add_assoc, h0]
  have e2 : blk (l.drop j) + m + blk ((l.drop j).drop (blk (l.drop j) + m)) = j2 - j := by rw [e1]; omega
  rw [row_eq (by rw [drop_at h0]; exact h) hm e2]
  have hj : j + (j2 - j) = j2 := by omega
  have e3 : (l.drop j).drop (j2 - j) = l.drop j2 := by rw [List.drop_drop, hj]
  have e4 : (l.drop j).drop (j2 - j + 1) = l.drop (j2 + 1) := by rw [List.drop_drop]; congr 1; omega
  rw [e3, e4]
  split
  · show some _ = some _
    simp only [bump]
    congr 2
    omega
  · split
    · rw [bump_bump, show j + (j2 - j + 1) = j2 + 1 by omega]
    · rfl
theorem row_blk (m : L8) (acc : List Nd) : (rowP (m.drop (blk m)) acc).map (bump (blk m)) = rowP m acc := by
  have hb := blk_idem m
  cases hv : valP (m.drop (blk m)) with
  | none => rw [row_none hv, row_none (l := m.drop (blk m)) (by rw [hb, List.drop_zero]; exact hv)]; rfl
  | some p =>
    obtain ⟨d, k⟩ := p
    have hv2 : valP ((m.drop (blk m)).drop (blk (m.drop (blk m)))) = some (d, k) := by rw [hb, List.drop_zero]; exact hv
    by_cases hk : k = 0
    · subst hk
      rw [row_zero hv, row_zero hv2]; rfl
    · obtain ⟨n, hn⟩ : ∃ n, blk m + k + blk (m.drop (blk m + k)) = n := ⟨_, rfl⟩
      have hn2 : blk (m.drop (blk m)) + k + blk ((m.drop (blk m)).drop (blk (m.drop (blk m)) + k)) = n - blk m := by rw [hb, Nat.zero_add, List.drop_drop]; omega
      rw [row_eq hv hk hn, row_eq hv2 hk hn2]
      have e1 : (m.drop (blk m)).drop (n - blk m) = m.drop n := by rw [List.drop_drop]; congr 1; omega
      have e2 : (m.drop (blk m)).drop (n - blk m + 1) = m.drop (n + 1) := by rw [List.drop_drop]; congr 1; omega
      rw [e1, e2]
      split
      · show some _ = some _
        simp only [bump]
        congr 2
        omega
      · split
        · rw [bump_bump, show blk m + (n - blk m + 1) = n + 1 by omega]
        · rfl
theorem rowA_blk {l : L8} {j j0 : Nat} (h0 : j + blk (l.drop j) = j0) (acc : List Nd) : rowA l j0 acc = rowA l j acc := by
  unfold rowA
  rw [← drop_at h0, ← row_blk (l.drop j) acc, bump_bump, h0]
/- ### Maps. -/
def prsA (l : L8) (j : Nat) (ak : List L8) (ad : List Nd) : Option (Nd × Nat) := (prsP (l.drop j) ak ad).map (bump j)
theorem prs_none {l : L8} {ak : List L8} {ad : List Nd} (h : keyP (l.drop (blk l)) = none) : prsP l ak ad = none := by
  rw [prsP]
  split
  · rfl
  · rename_i h9; rw [h] at h9; cases h9
theorem prs_twice {l : L8} {ak : List L8} {ad : List Nd} {x : L8} {j : Nat} (h : keyP (l.drop (blk l)) = some (x, j)) (hx : x ∈ ak) : prsP l ak ad = none := by
  rw [prsP]
  split
  · rfl
  · rename_i h9
    rw [h] at h9
    injection h9 with h9
    injection h9 with h9 h10
    subst h9
    rw [if_pos hx]
theorem prs_noval {l : L8} {ak : List L8} {ad : List Nd} {x : L8} {j a : Nat} (h : keyP (l.drop (blk l)) = some (x, j)) (ha : blk l + j + blk (l.drop (blk l + j)) = a) (hv : valP (l.drop a) = none) : prsP l ak ad = none := by
  subst ha
  rw [prsP]
  split
  · rfl
  · rename_i h9
    rw [h] at h9
    injection h9 with h9
    injection h9 with h9 h10
    subst h9; subst h10
    rw [hv]
    split <;> rfl
theorem prs_eq {x : L8} {d : Nd} {l : L8} {ks : List L8} {ds : List Nd} {j a m n : Nat} (hk : keyP (l.drop (blk l)) = some (x, j)) (hx : x ∉ ks) (ha : blk l + j + blk (l.drop (blk l + j)) = a) (h : valP (l.drop a) = some (d, m)) (hn : a + m + blk (l.drop (a + m)) = n) :
    prsP l ks ds = if (l.drop n).headD 0 = 125 then some (.mk 3 [] (ks ++ [x]) (ds ++ [d]), n + 1) else if (l.drop n).headD 0 = 44 then (prsP (l.drop (n + 1)) (ks ++ [x]) (ds ++ [d])).map (bump (n + 1)) else none := by
  cases hd : l.drop n with
  | nil =>
    subst ha
    subst hn
    rw [prsP]
    split
    · rfl
    · rename_i x9 j9 h9
      rw [hk] at h9
      injection h9 with h9
      injection h9 with h9 h10
      subst h9; subst h10
      rw [if_neg hx, h]
      show (match _h : l.drop _ with | [] => none | c :: t => _) = _
      split
      · rfl
      · rename_i h9; rw [hd] at h9; cases h9
  | cons c t =>
    have e : l.drop (n + 1) = t := by rw [← List.drop_drop, hd]; rfl
    rw [prs_step hk hx ha h hn hd, e]
    rfl
theorem prsA_none {l : L8} {j jb : Nat} {ak : List L8} {ad : List Nd} (h0 : j + blk (l.drop j) = jb) (h : keyP (l.drop jb) = none) : prsA l j ak ad = none := by
  unfold prsA
  rw [prs_none (by rw [drop_at h0]; exact h)]; rfl
theorem prsA_twice {l : L8} {j jb : Nat} {ak : List L8} {ad : List Nd} {x : L8} {i : Nat} (h0 : j + blk (l.drop j) = jb) (h : keyP (l.drop jb) = some (x, i)) (hx : x ∈ ak) : prsA l j ak ad = none := by
  unfold prsA
  rw [prs_twice (by rw [drop_at h0]; exact h) hx]; rfl
theorem prsA_noval {l : L8} {j jb a : Nat} {ak : List L8} {ad : List Nd} {x : L8} {i : Nat} (h0 : j + blk (l.drop j) = jb) (h : keyP (l.drop jb) = some (x, i)) (ha : jb + i + blk (l.drop (jb + i)) = a) (hv : valP (l.drop a) = none) : prsA l j ak ad = none := by
  unfold prsA
  have e1 : (l.drop j).drop (blk (l.drop j) + i) = l.drop (jb + i) := by rw [List.drop_drop, ← Nat.add_assoc, h0]
  rw [prs_noval (a := a - j) (by rw [drop_at h0]; exact h) (by rw [e1]; omega) (by rw [List.drop_drop, show j + (a - j) = a by omega]; exact hv)]; rfl
theorem prsA_eq {l : L8} {j jb a j2 : Nat} {ak : List L8} {ad : List Nd} {x : L8} {i : Nat} {d : Nd} {m : Nat} (h0 : j + blk (l.drop j) = jb) (h : keyP (l.drop jb) = some (x, i)) (hx : x ∉ ak) (ha : jb + i + blk (l.drop (jb + i)) = a) (hv : valP (l.drop a) = some (d, m)) (h2 : a + m + blk (l.drop (a + m)) = j2) :
    prsA l j ak ad = if (l.drop j2).headD 0 = 125 then some (.mk 3 [] (ak ++ [x]) (ad ++ [d]), j2 + 1) else if (l.drop j2).headD 0 = 44 then prsA l (j2 + 1) (ak ++ [x]) (ad ++ [d]) else none := by
  unfold prsA
  have e1 : (l.drop j).drop (blk (l.drop j) + i) = l.drop (jb + i) := by rw [List.drop_drop, ← Nat.add_assoc, h0]
  have e2 : (l.drop j).drop (a - j + m) = l.drop (a + m) := by rw [List.drop_drop]; congr 1; omega
  rw [prs_eq (a := a - j) (n := j2 - j) (by rw [drop_at h0]; exact h) hx (by rw [e1]; omega) (by rw [List.drop_drop, show j + (a - j) = a by omega]; exact hv) (by rw [e2]; omega)]
  have hj : j + (j2 - j) = j2 := by omega
  have e3 : (l.drop j).drop (j2 - j) = l.drop j2 := by rw [List.drop_drop, hj]
  have e4 : (l.drop j).drop (j2 - j + 1) = l.drop (j2 + 1) := by rw [List.drop_drop]; congr 1; omega
  rw [e3, e4]
  split
  · show some _ = some _
    simp only [bump]
    congr 2
    omega
  · split
    · rw [bump_bump, show j + (j2 - j + 1) = j2 + 1 by omega]
    · rfl
theorem prsA_blk {l : L8} {j jb : Nat} (h0 : j + blk (l.drop j) = jb) (ak : List L8) (ad : List Nd) : prsA l jb ak ad = prsA l j ak ad := by
  have hid : jb + blk (l.drop jb) = jb := by
    have := blk_idem (l.drop j)
    rw [drop_at h0] at this
    omega
  cases hk : keyP (l.drop jb) with
  | none => rw [prsA_none hid hk, prsA_none h0 hk]
  | some p =>
    obtain ⟨x, i⟩ := p
    by_cases hx : x ∈ ak
    · rw [prsA_twice hid hk hx, prsA_twice h0 hk hx]
    · cases hv : valP (l.drop (jb + i + blk (l.drop (jb + i)))) with
      | none => rw [prsA_noval hid hk rfl hv, prsA_noval h0 hk rfl hv]
      | some q =>
        obtain ⟨d, m⟩ := q
        rw [prsA_eq hid hk hx rfl hv rfl, prsA_eq h0 hk hx rfl hv rfl]
end F9
end Go.Proofs.YtemndagaicamiaaGreatDoor
namespace Go.Proofs.YtemndagaicamiaaGreatDoor
namespace F9
open Nw N8 Q6
set_option linter.unusedVariables false
/-- An open collection: its kind, its keys, its kids so far. -/
structure Fr where
  k : Int
  ks : List L8
  ds : List Nd
def Fr.nd (f : Fr) : Nd := .mk f.k [] f.ks f.ds
def Fr.add (f : Fr) (d : Nd) : Fr := ⟨f.k, f.ks, f.ds ++ [d]⟩
def Fr.key (f : Fr) (x : L8) : Fr := ⟨f.k, f.ks ++ [x], f.ds⟩
def clo (k : Int) : UInt8 := if k = 2 then 93 else 125
/-- The rest of a collection, from an element on. -/
def colP (f : Fr) (l : L8) : Option (Nd × Nat) := if f.k = 2 then rowP l f.ds else prsP l f.ks f.ds
/-- What comes of it where an element has been added. -/
def thn (f : Fr) (S : List Fr) (l : L8) : Option Nd :=
  match S with
  | [] => if l.length = blk l then f.ds.head? else none
  | g :: S =>
    if (l.drop (blk l)).headD 0 = clo f.k then thn (g.add f.nd) S (l.drop (blk l + 1))
    else if (l.drop (blk l)).headD 0 = 44 then
      match colP f (l.drop (blk l + 1)) with
      | none => none
      | some p => thn (g.add p.1) S (l.drop (blk l + 1 + p.2))
    else none
  termination_by S
/-- What comes of it where a value is to come. -/
def val (f : Fr) (S : List Fr) (l : L8) : Option Nd :=
  match valP (l.drop (blk l)) with
  | none => none
  | some p => if f.k = 2 ∧ p.2 = 0 then none else thn (f.add p.1) S (l.drop (blk l + p.2))
/-- What comes of it where an element is to come. -/
def elm (f : Fr) (S : List Fr) (l : L8) : Option Nd :=
  if f.k = 3 then
    match keyP (l.drop (blk l)) with
    | none => none
    | some p => if p.1 ∈ f.ks then none else val (f.key p.1) S (l.drop (blk l + p.2))
  else val f S l
theorem par_val (l : L8) : parP l = val ⟨0, [], []⟩ [] l := by
  unfold parP val
  cases valP (l.drop (blk l)) with
  | none => rfl
  | some p =>
    show (if (l.drop (blk l + p.2)).length = blk (l.drop (blk l + p.2)) then some p.1 else none) = if (0 : Int) = 2 ∧ p.2 = 0 then none else thn (Fr.add ⟨0, [], []⟩ p.1) [] (l.drop (blk l + p.2))
    rw [if_neg (show ¬ ((0 : Int) = 2 ∧ p.2 = 0) from fun h => absurd h.1 (by decide)), thn]
    rfl
theorem thn_at (f g : Fr) (S : List Fr) (l : L8) {c n : Nat} (hn : c + blk (l.drop c) = n) :
    thn f (g :: S) (l.drop c) = if (l.drop n).headD 0 = clo f.k then thn (g.add f.nd) S (l.drop (n + 1)) else if (l.drop n).headD 0 = 44 then
      match colP f (l.drop (n + 1)) with | none => none | some p => thn (g.add p.1) S (l.drop (n + 1 + p.2)) else none := by
  have e1 : (l.drop c).drop (blk (l.drop c)) = l.drop n := by rw [List.drop_drop, hn]
  have e2 : (l.drop c).drop (blk (l.drop c) + 1) = l.drop (n + 1) := by rw [List.drop_drop, ← Nat.add_assoc, hn]
  have e3 : ∀ k, (l.drop c).drop (blk (l.drop c) + 1 + k) = l.drop (n + 1 + k) := fun k => by rw [List.drop_drop, ← hn]; congr 1; omega
  rw [thn, e1, e2]
  simp only [e3]
theorem elm_col {f g : Fr} {S : List Fr} {l : L8} (hk : f.k = 2 ∧ f.ks = [] ∨ f.k = 3) :
    elm f (g :: S) l = match colP f l with | none => none | some p => thn (g.add p.1) S (l.drop p.2) := by
  rcases hk with ⟨hk, hks⟩ | hk
  · unfold elm colP
    rw [if_neg (by rw [hk]; decide), if_pos hk]
    unfold val
    cases hv : valP (l.drop (blk l)) with
    | none => rw [row_none hv]
    | some p =>
      obtain ⟨d, m⟩ := p
      by_cases hm : m = 0
      · subst hm
        rw [row_zero hv]
        exact if_pos ⟨hk, rfl⟩
      · show (if f.k = 2 ∧ m = 0 then none else thn (f.add d) (g :: S) (l.drop (blk l + m))) = _
        obtain ⟨n, hn⟩ : ∃ n, blk l + m + blk (l.drop (blk l + m)) = n := ⟨_, rfl⟩
        rw [if_neg (fun h => hm h.2), row_eq hv hm hn, thn_at _ _ _ _ hn, show clo (f.add d).k = 93 from if_pos hk]
        split
        · rw [show (f.add d).nd = .mk 2 [] [] (f.ds ++ [d]) from by show Nd.mk f.k [] f.ks (f.ds ++ [d]) = _; rw [hk, hks]]
        · split
          · rw [show colP (f.add d) (l.drop (n + 1)) = rowP (l.drop (n + 1)) (f.ds ++ [d]) from if_pos hk]
            cases rowP (l.drop (n + 1)) (f.ds ++ [d]) <;> rfl
          · rfl
  · unfold elm colP
    rw [if_pos hk, if_neg (by rw [hk]; decide)]
    cases hx : keyP (l.drop (blk l)) with
    | none => rw [prs_none hx]
    | some p =>
      obtain ⟨x, j⟩ := p
      by_cases hm : x ∈ f.ks
      · rw [prs_twice hx hm]
        exact if_pos hm
      · show (if x ∈ f.ks then none else val (f.key x) (g :: S) (l.drop (blk l + j))) = _
        rw [if_neg hm]
        unfold val
        obtain ⟨a, ha⟩ : ∃ a, blk l + j + blk (l.drop (blk l + j)) = a := ⟨_, rfl⟩
        have e0 : (l.drop (blk l + j)).drop (blk (l.drop (blk l + j))) = l.drop a := by rw [List.drop_drop, ha]
        rw [e0]
        cases hv : valP (l.drop a) with
        | none => rw [prs_noval hx ha hv]
        | some q =>
          obtain ⟨d, m⟩ := q
          obtain ⟨n, hn⟩ : ∃ n, a + m + blk (l.drop (a + m)) = n := ⟨_, rfl⟩
          have e3 : (l.drop (blk l + j)).drop (blk (l.drop (blk l + j)) + m) = l.drop (a + m) := by rw [List.drop_drop, ← Nat.add_assoc, ha]
          show (if (f.key x).k = 2 ∧ m = 0 then none else thn ((f.key x).add d) (g :: S) ((l.drop (blk l + j)).drop (blk (l.drop (blk l + j)) + m))) = _
          rw [if_neg (fun h => absurd (hk.symm.trans h.1) (by decide)), prs_eq hx hm ha hv hn, e3, thn_at _ _ _ _ hn, show clo ((f.key x).add d).k = 125 from if_neg (by show ¬ f.k = 2; rw [hk]; decide)]
          split
          · rw [show ((f.key x).add d).nd = .mk 3 [] (f.ks ++ [x]) (f.ds ++ [d]) from by show Nd.mk f.k [] (f.ks ++ [x]) (f.ds ++ [d]) = _; rw [hk]]
          · split
            · rw [show colP ((f.key x).add d) (l.drop (n + 1)) = prsP (l.drop (n + 1)) (f.ks ++ [x]) (f.ds ++ [d]) from if_neg (by show ¬ f.k = 2; rw [hk]; decide)]
              cases prsP (l.drop (n + 1)) (f.ks ++ [x]) (f.ds ++ [d]) <;> rfl
            · rfl
/-- Behind an element: the collection's end, a comma and the next element, or nothing. -/
theorem thn_eq {f g : Fr} {S : List Fr} {l : L8} (hk : f.k = 2 ∧ f.ks = [] ∨ f.k = 3) :
    thn f (g :: S) l = if (l.drop (blk l)).headD 0 = clo f.k then thn (g.add f.nd) S (l.drop (blk l + 1)) else if (l.drop (blk l)).headD 0 = 44 then elm f (g :: S) (l.drop (blk l + 1)) else none := by
  rw [thn, elm_col hk]
  split
  · rfl
  · split
    · cases colP f (l.drop (blk l + 1)) with
      | none => rfl
      | some p => show thn _ S _ = thn _ S _; rw [List.drop_drop]
    · rfl
theorem thn_end (f : Fr) (l : L8) : thn f [] l = if l.length = blk l then f.ds.head? else none := by rw [thn]
/-- Where a bracket opens. -/
theorem val_row2 {f : Fr} {S : List Fr} {l t : L8} (h : l.drop (blk l) = 91 :: t) :
    val f S l = if (t.drop (blk t)).headD 0 = 93 then thn ⟨2, [], []⟩ (f :: S) t else elm ⟨2, [], []⟩ (f :: S) t := by
  have hd : ∀ k, l.drop (blk l + (1 + k)) = t.drop k := fun k => by rw [← List.drop_drop, h, Nat.add_comm 1 k]; rfl
  unfold val
  rw [h, val_row]
  by_cases h9 : (t.drop (blk t)).headD 0 = 93
  · rw [if_pos h9, show rowR t = some (.mk 2 [] [] [], blk t + 1) from if_pos h9, thn, if_pos (show (t.drop (blk t)).headD 0 = clo 2 from h9)]
    show (if f.k = 2 ∧ 1 + (blk t + 1) = 0 then none else thn (f.add (.mk 2 [] [] [])) S (l.drop (blk l + (1 + (blk t + 1))))) = _
    rw [if_neg (by omega), hd]
    rfl
  · rw [if_neg h9, show rowR t = rowP t [] from if_neg h9, elm_col (.inl ⟨rfl, rfl⟩)]
    show _ = match rowP t [] with | none => none | some p => thn (f.add p.1) S (t.drop p.2)
    cases rowP t [] with
    | none => rfl
    | some p =>
      show (if f.k = 2 ∧ 1 + p.2 = 0 then none else thn (f.add p.1) S (l.drop (blk l + (1 + p.2)))) = _
      rw [if_neg (by omega), hd]
theorem val_prs2 {f : Fr} {S : List Fr} {l t : L8} (h : l.drop (blk l) = 123 :: t) :
    val f S l = if (t.drop (blk t)).headD 0 = 125 then thn ⟨3, [], []⟩ (f :: S) t else elm ⟨3, [], []⟩ (f :: S) t := by
  have hd : ∀ k, l.drop (blk l + (1 + k)) = t.drop k := fun k => by rw [← List.drop_drop, h, Nat.add_comm 1 k]; rfl
  unfold val
  rw [h, val_prs]
  by_cases h9 : (t.drop (blk t)).headD 0 = 125
  · rw [if_pos h9, show prsR t = some (.mk 3 [] [] [], blk t + 1) from if_pos h9, thn, if_pos (show (t.drop (blk t)).headD 0 = clo 3 from h9)]
    show (if f.k = 2 ∧ 1 + (blk t + 1) = 0 then none else thn (f.add (.mk 3 [] [] [])) S (l.drop (blk l + (1 + (blk t + 1))))) = _
    rw [if_neg (by omega), hd]
    rfl
  · rw [if_neg h9, show prsR t = prsP t [] [] from if_neg h9, elm_col (.inr rfl)]
    show _ = match prsP t [] [] with | none => none | some p => thn (f.add p.1) S (t.drop p.2)
    cases prsP t [] [] with
    | none => rfl
    | some p =>
      show (if f.k = 2 ∧ 1 + p.2 = 0 then none else thn (f.add p.1) S (l.drop (blk l + (1 + p.2)))) = _
      rw [if_neg (by omega), hd]
/- ### Scalars. -/
/-- Where what can only be a scalar ends. -/
def tkn (l : L8) : Nat := if isQ (l.headD 0) then (match scnP l with | some p => p.2 | none => pln l) else pln l
def frm (l : L8) : L8 := trm (l.take (tkn l))
theorem tkn_le (l : L8) : tkn l ≤ l.length := by
  unfold tkn
  split
  · rename_i hq
    cases hs : scnP l with
    | none => exact pln_le l
    | some p =>
      obtain ⟨v, n⟩ := p
      exact (scn_facts hs (fun e => by subst e; exact absurd hq (by decide))).2
  · exact pln_le l
theorem quo_bad3 {c : UInt8} {t : L8} (h : isQ c = true) : bad3 (c :: t) = false ∧ rowB (c :: t) = false := by
  have hc : c = 34 ∨ c = 39 := by
    unfold isQ at h
    rw [Bool.or_eq_true] at h
    rcases h with h | h
    · exact .inl (of_decide_eq_true h)
    · exact .inr (of_decide_eq_true h)
  constructor
  · unfold bad3
    rcases hc with rfl | rfl <;> simp
  · rw [Bool.eq_false_iff]
    intro e
    have h2 : has firsts c = false := (row_first e).2
    clear e
    rcases hc with rfl | rfl <;> exact absurd h2 (by decide)
theorem trm_keep {l : L8} (h : l.getD (l.length - 1) 0 ≠ 32) : trm l = l := by
  unfold trm
  rw [Lib.trimRightB_take l 32 l.length (Nat.le_refl _) ?_ ?_, List.take_length]
  · intro j b hj hb
    rw [List.getElem?_eq_none hj] at hb; cases hb
  · intro b h0 hb
    rw [List.getD_eq_getElem?_getD, hb] at h
    exact h
theorem pln_stop {l : L8} (h : pln l < l.length) : stops (l.getD (pln l) 0) (l.drop (pln l + 1)) = true := by
  induction l with
  | nil => exact absurd h (Nat.not_lt_zero _)
  | cons c l ih =>
    rw [pln] at h ⊢
    split at h
    · rename_i hs
      rw [if_pos hs]; exact hs
    · rename_i hs
      rw [if_neg hs]
      exact ih (Nat.lt_of_succ_lt_succ h)
/-- What is cut off a text's end by trm are spaces. -/
theorem trm_split (l : L8) : ∃ n, n ≤ l.length ∧ trm l = l.take n ∧ (∀ i, n ≤ i → i < l.length → l.getD i 0 = 32) ∧ (0 < n → l.getD (n - 1) 0 ≠ 32) := by
  suffices h : ∀ m, m ≤ l.length → (∀ i, m ≤ i → i < l.length → l.getD i 0 = 32) → ∃ n, n ≤ l.length ∧ trm l = l.take n ∧ (∀ i, n ≤ i → i < l.length → l.getD i 0 = 32) ∧ (0 < n → l.getD (n - 1) 0 ≠ 32) from
    h l.length (Nat.le_refl _) fun i h1 h2 => absurd h1 (by omega)
  have fin : ∀ m, m ≤ l.length → (∀ i, m ≤ i → i < l.length → l.getD i 0 = 32) → (0 < m → l.getD (m - 1) 0 ≠ 32) → trm l = l.take m := by
    intro m hm h1 h2
    refine Lib.trimRightB_take l 32 m hm (fun j b hj hb => ?_) fun b h0 hb => ?_
    · have hl : j < l.length := (List.getElem?_eq_some_iff.1 hb).1
      have := h1 j hj hl
      rw [List.getD_eq_getElem?_getD, hb] at this
      exact this
    · have := h2 h0
      rw [List.getD_eq_getElem?_getD, hb] at this
      exact this
  intro m
  induction m with
  | zero => intro hm h1; exact ⟨0, hm, fin 0 hm h1 (fun h => absurd h (by omega)), h1, fun h => absurd h (by omega)⟩
  | succ m ih =>
    intro hm h1
    by_cases h2 : l.getD m 0 = 32
    · refine ih (by omega) fun i hi hl => ?_
      by_cases he : i = m
      · rw [he]; exact h2
      · exact h1 i (by omega) hl
    · exact ⟨m + 1, hm, fin _ hm h1 (fun _ => h2), h1, fun _ => h2⟩
theorem stops_39 {c : UInt8} {l : L8} (h : stops c l = true) : c ≠ 39 ∧ c ≠ 34 ∧ c ≠ 32 := by
  refine ⟨?_, ?_, ?_⟩ <;> (rintro rfl; unfold stops at h; revert h; simp [has, marks, isC])
/-- The scalar ahead, where no space and no bracket is, is what the grammar says. -/
theorem val_scl {l : L8} (hb : blk l = 0) (h1 : l.headD 0 ≠ 91) (h2 : l.headD 0 ≠ 123) : valP l = (sclS true (frm l)).map fun d => (d, tkn l) := by
  cases l with
  | nil => rw [show valP [] = some (nul, 0) from by rw [valP]]; rfl
  | cons c t =>
    have h1 : c ≠ 91 := h1
    have h2 : c ≠ 123 := h2
    have h32 : c ≠ 32 := by
      rintro rfl
      rw [blk_cons, if_pos rfl] at hb
      cases hb
    cases hq : isQ c with
    | true =>
      rw [val_quoted h1 h2 hq]
      cases hs : scnP (c :: t) with
      | some p =>
        obtain ⟨v, n⟩ := p
        obtain ⟨p1, p2, p3⟩ := scn_pre hq hs
        obtain ⟨f1, f2⟩ := scn_facts hs (by simp)
        have ht : tkn (c :: t) = n := by
          unfold tkn
          rw [show isQ ((c :: t).headD 0) = true from hq, if_pos rfl, hs]
        have hlen : ((c :: t).take n).length = n := by rw [List.length_take]; omega
        have hf : frm (c :: t) = (c :: t).take n := by
          unfold frm
          rw [ht]
          refine trm_keep ?_
          rw [hlen]
          intro e
          have e2 : ((c :: t).take n).getD (n - 1) 0 = (c :: t).getD (n - 1) 0 := by
            rw [List.getD_eq_getElem?_getD, List.getElem?_take_of_lt (by omega), ← List.getD_eq_getElem?_getD]
          rw [← e2, e] at p2
          exact absurd p2 (by decide)
        have hn : ∃ n', n = n' + 1 := ⟨n - 1, by omega⟩
        obtain ⟨n', rfl⟩ := hn
        rw [ht, hf]
        have hp := p1 [] (by decide)
        rw [List.append_nil] at hp
        unfold sclS
        rw [List.take_succ_cons] at hp hlen ⊢
        rw [(quo_bad3 hq).1, if_neg Bool.false_ne_true, show isQ ((c :: t.take n').headD 0) = true from hq, hp, hlen]
        simp
      | none =>
        have ht : tkn (c :: t) = pln (c :: t) := by
          unfold tkn
          rw [show isQ ((c :: t).headD 0) = true from hq, if_pos rfl, hs]
        obtain ⟨n, g1, g2, g3, g4⟩ := trm_split ((c :: t).take (pln (c :: t)))
        have hf : frm (c :: t) = ((c :: t).take (pln (c :: t))).take n := by unfold frm; rw [ht, g2]
        have hpl : pln (c :: t) ≠ 0 := by
          rw [pln]
          split
          · rename_i h9
            have h9 := stops_39 h9
            exfalso
            unfold isQ at hq
            rw [Bool.or_eq_true] at hq
            rcases hq with hq | hq
            · exact h9.2.1 (of_decide_eq_true hq)
            · exact h9.1 (of_decide_eq_true hq)
          · omega
        have hple := pln_le (c :: t)
        have g1' : n ≤ pln (c :: t) := by rw [List.length_take] at g1; omega
        have htl : ((c :: t).take (pln (c :: t))).length = pln (c :: t) := by rw [List.length_take]; omega
        have hn0 : n ≠ 0 := by
          rintro rfl
          have := g3 0 (Nat.le_refl _) (by rw [htl]; omega)
          rw [List.getD_eq_getElem?_getD, List.getElem?_take_of_lt (by omega)] at this
          exact h32 this
        have hf2 : frm (c :: t) = (c :: t).take n := by rw [hf, List.take_take, Nat.min_eq_left g1']
        -- were what is cut a quoted text, the scan would have found it
        have hno : (scnP ((c :: t).take n)).map (·.2) ≠ some ((c :: t).take n).length := by
          intro e
          cases hs2 : scnP ((c :: t).take n) with
          | none => rw [hs2] at e; cases e
          | some p =>
            obtain ⟨v, m⟩ := p
            rw [hs2] at e
            have hm : m = ((c :: t).take n).length := by injection e
            have hnn : ∃ n', n = n' + 1 := ⟨n - 1, by omega⟩
            obtain ⟨n', rfl⟩ := hnn
            rw [List.take_succ_cons] at hs2
            obtain ⟨p1, -, -⟩ := scn_pre hq hs2
            have hnext : ((c :: t).drop (n' + 1)).headD 0 ≠ 39 := by
              intro e9
              have hlt : n' + 1 < (c :: t).length := by
                rcases Nat.lt_or_ge (n' + 1) (c :: t).length with h | h
                · exact h
                · rw [List.drop_of_length_le h] at e9; exact absurd e9 (by decide)
              have e8 : (c :: t).getD (n' + 1) 0 = 39 := by
                rw [drop_cons hlt] at e9; exact e9
              by_cases hlt2 : n' + 1 < pln (c :: t)
              · have := g3 (n' + 1) (Nat.le_refl _) (by rw [htl]; exact hlt2)
                rw [List.getD_eq_getElem?_getD, List.getElem?_take_of_lt hlt2, ← List.getD_eq_getElem?_getD, e8] at this
                exact absurd this (by decide)
              · have e7 : pln (c :: t) = n' + 1 := by omega
                have := (stops_39 (pln_stop (l := c :: t) (by rw [e7]; exact hlt))).1
                rw [e7] at this
                exact this e8
            have h9 := p1 ((c :: t).drop (n' + 1)) hnext
            have e6 : (c :: t.take n').take m = c :: t.take n' := by
              rw [List.take_of_length_le]
              rw [hm, List.take_succ_cons]
              exact Nat.le_refl _
            rw [e6, ← List.take_succ_cons, List.take_append_drop] at h9
            rw [hs] at h9
            cases h9
        have hnn : ∃ n', n = n' + 1 := ⟨n - 1, by omega⟩
        obtain ⟨n', rfl⟩ := hnn
        rw [hf2]
        unfold sclS
        rw [show decide ((scnP ((c :: t).take (n' + 1))).map (·.2) = some ((c :: t).take (n' + 1)).length) = false from decide_eq_false hno, List.take_succ_cons, (quo_bad3 hq).1, if_neg Bool.false_ne_true, Bool.and_false, if_neg Bool.false_ne_true, if_pos rfl, (quo_bad3 hq).2]
        rfl
    | false =>
      rw [val_plain h1 h2 hq]
      have ht : tkn (c :: t) = pln (c :: t) := by
        unfold tkn
        rw [show isQ ((c :: t).headD 0) = false from hq, if_neg Bool.false_ne_true]
      have hf : frm (c :: t) = trm ((c :: t).take (pln (c :: t))) := by unfold frm; rw [ht]
      have hhd : isQ ((trm ((c :: t).take (pln (c :: t)))).headD 0) = false := by
        obtain ⟨n, g1, g2, -, -⟩ := trm_split ((c :: t).take (pln (c :: t)))
        rw [g2]
        cases n with
        | zero => rfl
        | succ n =>
          cases hp : pln (c :: t) with
          | zero => rfl
          | succ m => exact hq
      rw [ht, hf]
      unfold sclP sclS
      rw [hhd, Bool.false_and, if_neg Bool.false_ne_true, if_pos rfl]
theorem frm_nil {l : L8} (hb : blk l = 0) (hl : l ≠ []) : frm l = [] ↔ tkn l = 0 := by
  cases l with
  | nil => exact absurd rfl hl
  | cons c t =>
    have h32 : c ≠ 32 := by
      rintro rfl
      rw [blk_cons, if_pos rfl] at hb
      cases hb
    constructor
    · intro h
      unfold frm at h
      have hle := tkn_le (c :: t)
      obtain ⟨n, g1, g2, g3, -⟩ := trm_split ((c :: t).take (tkn (c :: t)))
      have htl : ((c :: t).take (tkn (c :: t))).length = tkn (c :: t) := by rw [List.length_take]; omega
      rw [g2] at h
      rcases Nat.eq_zero_or_pos (tkn (c :: t)) with h0 | h0
      · exact h0
      · exfalso
        have hl9 : (((c :: t).take (tkn (c :: t))).take n).length = 0 := by rw [h]; rfl
        rw [List.length_take, htl] at hl9
        have := g3 0 (by omega) (by rw [htl]; exact h0)
        rw [List.getD_eq_getElem?_getD, List.getElem?_take_of_lt h0] at this
        exact h32 this
    · intro h
      unfold frm
      rw [h]; rfl
end F9
end Go.Proofs.YtemndagaicamiaaGreatDoor
namespace Go.Proofs.YtemndagaicamiaaGreatDoor
namespace F9
open Nw N8 Q6
set_option linter.unusedVariables false
/-- Does a key stand twice? -/
def twi (ks : List L8) : Bool := decide ((sortL ks).length < ks.length)
theorem sort_one (x : L8) : (sortL [x]).length = 1 := by
  rw [sortL_eq (S := [x]) (List.pairwise_singleton _ _) (fun _ => Iff.rfl)]; rfl
theorem twi_nil : twi [] = false := by
  refine decide_eq_false ?_
  rw [sortL_nil]; exact Nat.lt_irrefl _
theorem twi_new {ks : List L8} {x : L8} (h : twi ks = false) (hx : x ∉ ks) : twi (ks ++ [x]) = false := by
  have h1 : ¬ (sortL ks).length < ks.length := of_decide_eq_false h
  have hf : (sortL ks).filter (fun y => !decide (y ∈ [x])) = sortL ks := List.filter_eq_self.2 fun y hy => by
    have h2 : y ∉ [x] := fun e => hx (by rw [List.mem_singleton] at e; rw [← e]; exact mem_sortL.1 hy)
    rw [decide_eq_false h2]; rfl
  refine decide_eq_false ?_
  rw [count_eq, hf, sort_one, List.length_append]
  show ¬ (sortL ks).length + 1 < ks.length + 1
  omega
theorem twi_old {ks : List L8} {x : L8} (h : twi ks = true ∨ x ∈ ks) : twi (ks ++ [x]) = true := by
  refine decide_eq_true ?_
  rw [count_eq, sort_one, List.length_append]
  have hle : ((sortL ks).filter fun y => !decide (y ∈ [x])).length ≤ (sortL ks).length := List.length_filter_le _ _
  have hle2 := sortL_length_le ks
  show ((sortL ks).filter fun y => !decide (y ∈ [x])).length + 1 < ks.length + 1
  rcases h with h | h
  · have h3 : (sortL ks).length < ks.length := of_decide_eq_true h
    omega
  · have h3 : ((sortL ks).filter fun y => !decide (y ∈ [x])).length < (sortL ks).length := by
      rcases Nat.lt_or_ge ((sortL ks).filter fun y => !decide (y ∈ [x])).length (sortL ks).length with h4 | h4
      · exact h4
      · have h5 := (List.length_filter_eq_length_iff.1 (Nat.le_antisymm hle h4)) x (mem_sortL.2 h)
        rw [decide_eq_true (List.mem_singleton.2 rfl)] at h5
        cases h5
    omega
/-- A key stands twice in one of the open collections. -/
def Dm (f : Fr) (S : List Fr) : Prop := twi f.ks = true ∨ ∃ g ∈ S, twi g.ks = true
def At (φ : Fr → List Fr → L8 → Option Nd) (f : Fr) (S : List Fr) (l : L8) (P : Option Nd) : Prop := (Dm f S ∧ P = none) ∨ (¬ Dm f S ∧ φ f S l = P)
/-- Which kinds the open collections have. -/
def Kds : Fr → List Fr → Prop
  | f, [] => f.k = 0 ∧ f.ks = []
  | f, g :: S => ((f.k = 2 ∧ f.ks = []) ∨ f.k = 3) ∧ Kds g S
def Hld (φ : Fr → List Fr → L8 → Option Nd) (N M : Nat) (f : Fr) (S : List Fr) (l : L8) (P : Option Nd) : Prop :=
  Kds f S ∧ At φ f S l P ∧ (f.ds.length + l.length ≤ M ∧ f.ks.length + l.length ≤ N ∧ S.length + l.length ≤ N) ∧ ∀ e ∈ S, e.ds.length + l.length ≤ N ∧ e.ks.length + l.length ≤ N
/-- The same, from another place. -/
theorem Hld.turn {φ ψ : Fr → List Fr → L8 → Option Nd} {N M M' : Nat} {f : Fr} {S : List Fr} {l l' : L8} {P : Option Nd} (h : Hld φ N M f S l P) (he : ¬ Dm f S → φ f S l = ψ f S l') (hl : l'.length ≤ l.length) (hm : f.ds.length + l'.length ≤ M') : Hld ψ N M' f S l' P := by
  obtain ⟨h1, h2, ⟨h3, h4, h5⟩, h6⟩ := h
  refine ⟨h1, h2.imp id (fun ⟨a, b⟩ => ⟨a, by rw [← he a]; exact b⟩), ⟨hm, by omega, by omega⟩, fun e he => ⟨by have := (h6 e he).1; omega, by have := (h6 e he).2; omega⟩⟩
theorem kds_three {f : Fr} {S : List Fr} (h : Kds f S) (hk : f.k = 3) : ∃ g T, S = g :: T := by
  cases S with
  | nil => obtain ⟨h1, -⟩ := h; rw [hk] at h1; exact absurd h1 (by decide)
  | cons g T => exact ⟨g, T, rfl⟩
theorem kds_key {f : Fr} {S : List Fr} (h : Kds f S) (hk : f.k = 3) (x : L8) : Kds (f.key x) S := by
  obtain ⟨g, T, rfl⟩ := kds_three h hk
  exact ⟨.inr hk, h.2⟩
theorem kds_add {f : Fr} {S : List Fr} (h : Kds f S) (d : Nd) : Kds (f.add d) S := by
  cases S with
  | nil => exact h
  | cons g T => exact h
/- ### Spaces. -/
theorem len_blk (l : L8) (k : Nat) : (l.drop k).length ≤ l.length := by rw [List.length_drop]; omega
theorem drop_blk (l : L8) (k : Nat) : (l.drop (blk l)).drop (blk (l.drop (blk l)) + k) = l.drop (blk l + k) := by rw [List.drop_drop, blk_idem, Nat.zero_add]
theorem thn_blk (f : Fr) (S : List Fr) (l : L8) : thn f S (l.drop (blk l)) = thn f S l := by
  cases S with
  | nil =>
    rw [thn_end, thn_end, blk_idem, List.length_drop]
    have := blk_le l
    by_cases h : l.length = blk l
    · rw [if_pos h, if_pos (by omega)]
    · rw [if_neg h, if_neg (by omega)]
  | cons g S =>
    rw [thn, thn]
    have e0 : (l.drop (blk l)).drop (blk (l.drop (blk l))) = l.drop (blk l) := drop_blk l 0
    have e1 := drop_blk l 1
    have e2 : ∀ k, (l.drop (blk l)).drop (blk (l.drop (blk l)) + 1 + k) = l.drop (blk l + 1 + k) := fun k => by rw [Nat.add_assoc, drop_blk, Nat.add_assoc]
    rw [e0, e1]
    simp only [e2]
theorem val_blk (f : Fr) (S : List Fr) (l : L8) : val f S (l.drop (blk l)) = val f S l := by
  unfold val
  have e0 : (l.drop (blk l)).drop (blk (l.drop (blk l))) = l.drop (blk l) := drop_blk l 0
  rw [e0]
  simp only [drop_blk]
theorem elm_blk (f : Fr) (S : List Fr) (l : L8) : elm f S (l.drop (blk l)) = elm f S l := by
  unfold elm
  have e0 : (l.drop (blk l)).drop (blk (l.drop (blk l))) = l.drop (blk l) := drop_blk l 0
  rw [e0, val_blk]
  simp only [drop_blk]
/- ### Keys. -/
/-- What a key ahead is. -/
def colon (l : L8) : Bool := isC 58 (((l.drop (tkn l)).drop (blk (l.drop (tkn l)))).headD 0)
theorem isC_of {c d : UInt8} : isC c d = decide (d = c) := by unfold isC; rfl
theorem key_scl {l : L8} (hb : blk l = 0) :
    keyP l = match sclS true (frm l) with
      | none => none
      | some d => if d.kind = 1 ∧ colon l = true then some (d.text, tkn l + blk (l.drop (tkn l)) + 1) else none := by
  cases hq : isQ (l.headD 0) with
  | true =>
    cases l with
    | nil => exact absurd hq (by decide)
    | cons c t =>
      have hc : c = 34 ∨ c = 39 := by
        have hq : isQ c = true := hq
        unfold isQ at hq
        rw [Bool.or_eq_true] at hq
        exact hq.imp of_decide_eq_true of_decide_eq_true
      have h1 : c ≠ 91 := by rcases hc with rfl | rfl <;> decide
      have h2 : c ≠ 123 := by rcases hc with rfl | rfl <;> decide
      have hv := val_scl hb (show (c :: t).headD 0 ≠ 91 from h1) (show (c :: t).headD 0 ≠ 123 from h2)
      rw [val_quoted h1 h2 hq] at hv
      unfold keyP colon
      rw [if_pos hq]
      cases hs : scnP (c :: t) with
      | none =>
        rw [hs] at hv
        cases hS : sclS true (frm (c :: t)) with
        | none => rfl
        | some d => rw [hS] at hv; cases hv
      | some p =>
        obtain ⟨v, n⟩ := p
        rw [hs] at hv
        cases hS : sclS true (frm (c :: t)) with
        | none => rw [hS] at hv; cases hv
        | some d =>
          rw [hS] at hv
          have hv : some (txt v, n) = some (d, tkn (c :: t)) := hv
          injection hv with hv
          injection hv with e1 e2
          subst e1
          rw [← e2]
          show (if ((c :: t).drop (n + blk ((c :: t).drop n))).headD 0 = 58 then some (v, n + blk ((c :: t).drop n) + 1) else none) = if (1 : Int) = 1 ∧ isC 58 ((((c :: t).drop n).drop (blk ((c :: t).drop n))).headD 0) = true then some (v, n + blk ((c :: t).drop n) + 1) else none
          rw [List.drop_drop]
          by_cases h9 : ((c :: t).drop (n + blk ((c :: t).drop n))).headD 0 = 58
          · rw [if_pos h9, if_pos ⟨rfl, isC_iff.2 h9⟩]
          · rw [if_neg h9, if_neg (fun e => h9 (isC_iff.1 e.2))]
  | false =>
    have ht : tkn l = pln l := by unfold tkn; rw [hq, if_neg Bool.false_ne_true]
    have hf : frm l = trm (l.take (pln l)) := by unfold frm; rw [ht]
    have hhd : isQ ((frm l).headD 0) = false := by
      obtain ⟨n, g1, g2, -, -⟩ := trm_split (l.take (pln l))
      rw [hf, g2]
      cases n with
      | zero => rfl
      | succ n =>
        cases hp : pln l with
        | zero => rfl
        | succ m => cases l with
          | nil => rfl
          | cons c t => exact hq
    have hb2 : blk (l.drop (pln l)) = 0 := by
      rcases Nat.lt_or_ge (pln l) l.length with hl | hl
      · rw [drop_cons hl]
        exact blk_no (stops_39 (pln_stop hl)).2.2
      · rw [List.drop_of_length_le hl]; rfl
    unfold keyP colon sclS
    rw [hq, if_neg Bool.false_ne_true, hhd, Bool.false_and, if_neg (c := (false = true)) Bool.false_ne_true, if_pos rfl, ht, hb2, List.drop_zero, ← hf]
    cases hb3 : bad3 (frm l) with
    | true =>
      have hr : rowB (frm l) = false := by
        rw [Bool.eq_false_iff]; intro e
        rw [(row_every e).1] at hb3; cases hb3
      rw [hr, if_pos rfl, Bool.false_and, if_neg Bool.false_ne_true]
      exact (if_neg (fun e => absurd (show (0 : Int) = 1 from e.1) (by decide))).symm
    | false =>
      rw [if_neg Bool.false_ne_true]
      cases hr : rowB (frm l) with
      | false => rw [Bool.false_and]; rfl
      | true =>
        rw [Bool.true_and, if_pos rfl]
        show (if decide ((l.drop (pln l)).headD 0 = 58) = true then _ else none) = if (1 : Int) = 1 ∧ isC 58 ((l.drop (pln l)).headD 0) = true then some (frm l, pln l + 0 + 1) else none
        by_cases h9 : (l.drop (pln l)).headD 0 = 58
        · rw [if_pos (decide_eq_true h9), if_pos ⟨rfl, isC_iff.2 h9⟩, Nat.add_zero]
        · rw [if_neg (fun e => h9 (of_decide_eq_true e)), if_neg (fun e => h9 (isC_iff.1 e.2))]
theorem drop_len {l : L8} {k : Nat} (h : (l.drop k).headD 0 ≠ 0) : (l.drop (k + 1)).length + 1 ≤ l.length := by
  rcases Nat.lt_or_ge k l.length with hl | hl
  · rw [List.length_drop]; omega
  · rw [List.drop_of_length_le hl] at h; exact absurd rfl h
theorem sclS_true (l : L8) : sclS true l = if bad3 l then some nul else if isQ (l.headD 0) && decide ((scnP l).map (·.2) = some l.length) then (scnP l).map fun p => txt p.1 else if rowB l then some (txt l) else none := rfl
variable {N M : Nat} {f g : Fr} {S : List Fr} {l l1 : L8} {P : Option Nd}
theorem Hld.nokey (h : Hld elm N N f S l P) (hk : f.k ≠ 3) : Hld val N N f S l P := h.turn (fun _ => by unfold elm; rw [if_neg hk]) (Nat.le_refl _) h.2.2.1.1
theorem Hld.key_bad (h : Hld elm N N f S l P) (hk : f.k = 3) (hl : l.drop (blk l) = l1) (hb : ∀ x, sclS true (frm l1) = some (txt x) → colon l1 = true → False) : P = none := by
  rcases h.2.1 with ⟨-, h2⟩ | ⟨-, h2⟩
  · exact h2
  · rw [← h2]
    unfold elm
    rw [if_pos hk, hl]
    have h0 : blk l1 = 0 := by rw [← hl]; exact blk_idem l
    rw [key_scl h0]
    cases hs : sclS true (frm l1) with
    | none => rfl
    | some d =>
      have : ¬ (d.kind = 1 ∧ colon l1 = true) := by
        rintro ⟨e1, e2⟩
        have e3 : d = txt d.text := by
          rw [sclS_true] at hs
          by_cases h1 : bad3 (frm l1) = true
          · rw [if_pos h1] at hs
            injection hs with hs
            subst hs; exact absurd e1 (by decide)
          · rw [if_neg h1] at hs
            by_cases h2 : (isQ ((frm l1).headD 0) && decide ((scnP (frm l1)).map (·.2) = some (frm l1).length)) = true
            · rw [if_pos h2] at hs
              cases hp : scnP (frm l1) with
              | none => rw [hp] at hs; cases hs
              | some p => rw [hp] at hs; injection hs with hs; subst hs; rfl
            · rw [if_neg h2] at hs
              by_cases h3 : rowB (frm l1) = true
              · rw [if_pos h3] at hs
                injection hs with hs; subst hs; rfl
              · rw [if_neg h3] at hs; cases hs
        exact hb d.text (by rw [hs, ← e3]) e2
      show (match (if d.kind = 1 ∧ colon l1 = true then _ else none : Option (L8 × Nat)) with | none => none | some p => _) = none
      rw [if_neg this]
theorem Hld.key_good (h : Hld elm N N f S l P) (hk : f.k = 3) (hl : l.drop (blk l) = l1) {x : L8} (hs : sclS true (frm l1) = some (txt x)) (hc : colon l1 = true) {l2 : L8} (h2 : l2 = (l1.drop (tkn l1)).drop (blk (l1.drop (tkn l1)) + 1)) :
    Hld val N N (f.key x) S l2 P ∧ l2.length + 1 ≤ l.length := by
  have h0 : blk l1 = 0 := by rw [← hl]; exact blk_idem l
  have hlen : l2.length + 1 ≤ l.length := by
    have e := drop_len (l := l1.drop (tkn l1)) (k := blk (l1.drop (tkn l1))) (fun e => by unfold colon at hc; rw [e] at hc; exact absurd hc (by decide))
    rw [← h2] at e
    have e1 := len_blk l1 (tkn l1)
    have e2 := len_blk l (blk l)
    rw [hl] at e2
    omega
  have he : l2 = l.drop (blk l + (tkn l1 + blk (l1.drop (tkn l1)) + 1)) := by
    rw [h2, ← hl, List.drop_drop, List.drop_drop]
    congr 1
  have hkey : keyP (l.drop (blk l)) = some (x, tkn l1 + blk (l1.drop (tkn l1)) + 1) := by
    rw [hl, key_scl h0, hs]
    exact if_pos ⟨rfl, hc⟩
  obtain ⟨h1, h3, ⟨h4, h5, h6⟩, h7⟩ := h
  refine ⟨⟨kds_key h1 hk x, ?_, ⟨by show f.ds.length + _ ≤ _; omega, ?_, by omega⟩, fun e he => ⟨by have := (h7 e he).1; omega, by have := (h7 e he).2; omega⟩⟩, hlen⟩
  · rcases h3 with ⟨hd, hp⟩ | ⟨hd, hp⟩
    · exact .inl ⟨hd.imp (fun e => twi_old (.inl e)) id, hp⟩
    · unfold elm at hp
      rw [if_pos hk, hkey] at hp
      have hp : (if x ∈ f.ks then none else val (f.key x) S (l.drop (blk l + (tkn l1 + blk (l1.drop (tkn l1)) + 1)))) = P := hp
      by_cases hx : x ∈ f.ks
      · rw [if_pos hx] at hp
        exact .inl ⟨.inl (twi_old (.inr hx)), hp.symm⟩
      · rw [if_neg hx, ← he] at hp
        refine .inr ⟨fun e => hd ?_, hp⟩
        rcases e with e | e
        · left
          rw [← Bool.not_eq_false]
          intro e2
          have e3 : twi (f.ks ++ [x]) = false := twi_new e2 hx
          have e : twi (f.ks ++ [x]) = true := e
          rw [e3] at e; cases e
        · exact .inr e
  · show (f.ks ++ [x]).length + _ ≤ _
    rw [List.length_append, List.length_singleton]; omega
/- ### Brackets. -/
/-- Behind an opening bracket. -/
def opn (f : Fr) (S : List Fr) (l : L8) : Option Nd := if (l.drop (blk l)).headD 0 = clo f.k then thn f S l else elm f S l
theorem dm_push {k : Int} (h : ¬ Dm ⟨k, [], []⟩ (f :: S)) : ¬ Dm f S := fun e => h (.inr (e.elim (fun e => ⟨f, List.mem_cons_self, e⟩) fun ⟨g, hg, e⟩ => ⟨g, List.mem_cons_of_mem _ hg, e⟩))
theorem push_dm {k : Int} (h : Dm f S) : Dm ⟨k, [], []⟩ (f :: S) := .inr (h.elim (fun e => ⟨f, List.mem_cons_self, e⟩) fun ⟨g, hg, e⟩ => ⟨g, List.mem_cons_of_mem _ hg, e⟩)
theorem push_no {k : Int} (h : ¬ Dm f S) : ¬ Dm ⟨k, [], []⟩ (f :: S) := fun e => h (by
  rcases e with e | ⟨g, hg, e⟩
  · rw [show (⟨k, [], []⟩ : Fr).ks = [] from rfl, twi_nil] at e; cases e
  · rw [List.mem_cons] at hg
    rcases hg with rfl | hg
    · exact .inl e
    · exact .inr ⟨g, hg, e⟩)
theorem Hld.open_any (h : Hld val N N f S l P) {k : Int} (hk : k = 2 ∨ k = 3) {b : UInt8} (hb : b = if k = 2 then 91 else 123) (hd : (l.drop (blk l)).headD 0 = b) {t : L8} (ht : t = l.drop (blk l + 1)) :
    Hld opn N N ⟨k, [], []⟩ (f :: S) t P ∧ t.length + 1 ≤ l.length := by
  have hb0 : b ≠ 0 := by rw [hb]; split <;> decide
  have hlen := drop_len (l := l) (k := blk l) (by rw [hd]; exact hb0)
  rw [← ht] at hlen
  have hlt : blk l < l.length := by
    rcases Nat.lt_or_ge (blk l) l.length with hl | hl
    · exact hl
    · rw [List.drop_of_length_le hl] at hd; exact absurd hd.symm hb0
  have hcons : l.drop (blk l) = b :: t := by
    rw [drop_cons hlt, ht]
    rw [drop_cons hlt] at hd
    rw [show l.getD (blk l) 0 = b from hd]
  obtain ⟨h1, h3, ⟨h4, h5, h6⟩, h7⟩ := h
  refine ⟨⟨⟨hk.imp (fun e => ⟨e, rfl⟩) id, h1⟩, ?_, ⟨by show 0 + _ ≤ _; omega, by show 0 + _ ≤ _; omega, by rw [List.length_cons]; omega⟩, ?_⟩, hlen⟩
  · rcases h3 with ⟨g1, g2⟩ | ⟨g1, g2⟩
    · exact .inl ⟨push_dm g1, g2⟩
    refine .inr ⟨push_no g1, ?_⟩
    rw [← g2]
    rcases hk with rfl | rfl
    · rw [if_pos rfl] at hb
      subst hb
      rw [val_row2 hcons]; rfl
    · rw [if_neg (by decide)] at hb
      subst hb
      rw [val_prs2 hcons]; rfl
  · intro e he
    rw [List.mem_cons] at he
    rcases he with rfl | he
    · exact ⟨by omega, by omega⟩
    · have := h7 e he
      exact ⟨by omega, by omega⟩
theorem Hld.opn_yes (h : Hld opn N N f S l P) (hd : (l.drop (blk l)).headD 0 = clo f.k) (hl : l1 = l.drop (blk l)) : Hld thn N (N + 1) f S l1 P := by
  have e := len_blk l (blk l)
  have := h.2.2.1.1
  subst hl
  exact h.turn (fun _ => by rw [thn_blk]; exact if_pos hd) e (by omega)
theorem Hld.opn_no (h : Hld opn N N f S l P) (hd : (l.drop (blk l)).headD 0 ≠ clo f.k) (hl : l1 = l.drop (blk l)) : Hld elm N N f S l1 P := by
  have e := len_blk l (blk l)
  have := h.2.2.1.1
  subst hl
  exact h.turn (fun _ => by rw [elm_blk]; exact if_neg hd) e (by omega)
/- ### Scalars. -/
theorem Hld.val_skip (h : Hld val N N f S l P) (hl : l1 = l.drop (blk l)) : Hld val N N f S l1 P := by
  have e := len_blk l (blk l)
  have := h.2.2.1.1
  subst hl
  exact h.turn (fun _ => by rw [val_blk]) e (by omega)
theorem Hld.scl_none (h : Hld val N N f S l P) (hl : l.drop (blk l) = l1) (h1 : l1.headD 0 ≠ 91) (h2 : l1.headD 0 ≠ 123) (hs : sclS true (frm l1) = none) : P = none := by
  rcases h.2.1 with ⟨-, h3⟩ | ⟨-, h3⟩
  · exact h3
  · have h0 : blk l1 = 0 := by rw [← hl]; exact blk_idem l
    rw [← h3]
    unfold val
    rw [hl, val_scl h0 h1 h2, hs]; rfl
theorem Hld.scl_seq (h : Hld val N N f S l P) (hl : l.drop (blk l) = l1) (h1 : l1.headD 0 ≠ 91) (h2 : l1.headD 0 ≠ 123) (hf : frm l1 = []) (hk : f.k = 2) : P = none := by
  rcases h.2.1 with ⟨-, h3⟩ | ⟨-, h3⟩
  · exact h3
  · have h0 : blk l1 = 0 := by rw [← hl]; exact blk_idem l
    have ht : tkn l1 = 0 := by
      by_cases hn : l1 = []
      · rw [hn]; rfl
      · exact (frm_nil h0 hn).1 hf
    rw [← h3]
    unfold val
    rw [hl, val_scl h0 h1 h2]
    cases sclS true (frm l1) with
    | none => rfl
    | some d =>
      show (if f.k = 2 ∧ tkn l1 = 0 then none else _) = none
      rw [if_pos ⟨hk, ht⟩]
theorem Hld.scl_some (h : Hld val N N f S l P) (hl : l.drop (blk l) = l1) (h1 : l1.headD 0 ≠ 91) (h2 : l1.headD 0 ≠ 123) {d : Nd} (hs : sclS true (frm l1) = some d) (hf : frm l1 ≠ [] ∨ f.k ≠ 2) {l2 : L8} (he : l2 = l1.drop (tkn l1)) :
    Hld thn N (N + 1) (f.add d) S l2 P ∧ l2.length ≤ l.length := by
  have h0 : blk l1 = 0 := by rw [← hl]; exact blk_idem l
  have hlen : l2.length ≤ l.length := by rw [he, ← hl]; exact Nat.le_trans (len_blk _ _) (len_blk _ _)
  have hcond : ¬ (f.k = 2 ∧ tkn l1 = 0) := by
    rintro ⟨e1, e2⟩
    rcases hf with hf | hf
    · by_cases hn : l1 = []
      · rw [hn] at hf; exact hf rfl
      · exact hf ((frm_nil h0 hn).2 e2)
    · exact hf e1
  obtain ⟨g1, g3, ⟨g4, g5, g6⟩, g7⟩ := h
  refine ⟨⟨kds_add g1 d, ?_, ⟨?_, by show f.ks.length + _ ≤ _; omega, by omega⟩, fun e he => ⟨by have := (g7 e he).1; omega, by have := (g7 e he).2; omega⟩⟩, hlen⟩
  · rcases g3 with g3 | ⟨a, b⟩
    · exact .inl g3
    refine .inr ⟨a, ?_⟩
    rw [← b]
    unfold val
    rw [hl, val_scl h0 h1 h2, hs]
    show _ = (if f.k = 2 ∧ tkn l1 = 0 then none else thn (f.add d) S (l.drop (blk l + tkn l1)))
    rw [if_neg hcond, he, ← hl, List.drop_drop]
  · show (f.ds ++ [d]).length + _ ≤ _
    rw [List.length_append, List.length_singleton]; omega
/- ### Ends. -/
theorem Hld.pop (h : Hld thn N (N + 1) f (g :: S) l P) (hd : (l.drop (blk l)).headD 0 = clo f.k) (ht : twi f.ks = false) {l2 : L8} (he : l2 = l.drop (blk l + 1)) :
    Hld thn N (N + 1) (g.add f.nd) S l2 P ∧ l2.length + 1 ≤ l.length := by
  obtain ⟨⟨g1, g2⟩, g3, ⟨g4, g5, g6⟩, g7⟩ := h
  have hlen := drop_len (l := l) (k := blk l) (by rw [hd]; unfold clo; split <;> decide)
  rw [← he] at hlen
  have h9 := g7 g List.mem_cons_self
  rw [List.length_cons] at g6
  refine ⟨⟨kds_add g2 _, ?_, ⟨?_, by show g.ks.length + _ ≤ _; omega, by omega⟩, fun e he => ⟨by have := (g7 e (List.mem_cons_of_mem _ he)).1; omega, by have := (g7 e (List.mem_cons_of_mem _ he)).2; omega⟩⟩, hlen⟩
  · rcases g3 with ⟨a, b⟩ | ⟨a, b⟩
    · refine .inl ⟨?_, b⟩
      rcases a with a | ⟨x, hx, a⟩
      · rw [ht] at a; cases a
      · rw [List.mem_cons] at hx
        rcases hx with rfl | hx
        · exact .inl a
        · exact .inr ⟨x, hx, a⟩
    · refine .inr ⟨fun e => a ?_, ?_⟩
      · rcases e with e | ⟨x, hx, e⟩
        · exact .inr ⟨g, List.mem_cons_self, e⟩
        · exact .inr ⟨x, List.mem_cons_of_mem _ hx, e⟩
      · rw [thn_eq g1, if_pos hd] at b
        rw [he]; exact b
  · show (g.ds ++ [f.nd]).length + _ ≤ _
    rw [List.length_append, List.length_singleton]; omega
theorem Hld.thn_skip (h : Hld thn N (N + 1) f S l P) (hl : l1 = l.drop (blk l)) : Hld thn N (N + 1) f S l1 P := by
  have e := len_blk l (blk l)
  have := h.2.2.1.1
  subst hl
  exact h.turn (fun _ => by rw [thn_blk]) e (by omega)
theorem Hld.comma (h : Hld thn N (N + 1) f (g :: S) l P) (hn : (l.drop (blk l)).headD 0 ≠ clo f.k ∨ twi f.ks = true) (hd : (l.drop (blk l)).headD 0 = 44) {l2 : L8} (he : l2 = l.drop (blk l + 1)) :
    Hld elm N N f (g :: S) l2 P ∧ l2.length + 1 ≤ l.length := by
  have hlen := drop_len (l := l) (k := blk l) (by rw [hd]; decide)
  rw [← he] at hlen
  have h9 := h.2.2.1.1
  refine ⟨h.turn (fun hdm => ?_) (by omega) (by omega), hlen⟩
  rw [thn_eq h.1.1, if_neg (hn.elim id fun e => absurd (.inl e) hdm), if_pos hd, he]
theorem Hld.nocomma (h : Hld thn N (N + 1) f (g :: S) l P) (hn : (l.drop (blk l)).headD 0 ≠ clo f.k ∨ twi f.ks = true) (hd : (l.drop (blk l)).headD 0 ≠ 44) : P = none := by
  rcases h.2.1 with ⟨-, h3⟩ | ⟨hdm, h3⟩
  · exact h3
  · rw [thn_eq h.1.1, if_neg (hn.elim id fun e => absurd (.inl e) hdm), if_neg hd] at h3
    exact h3.symm
theorem Hld.done (h : Hld thn N (N + 1) f [] l P) : P = if l.length = blk l then f.ds.head? else none := by
  have hn : ¬ Dm f [] := by
    rintro (e | ⟨x, hx, -⟩)
    · rw [h.1.2, twi_nil] at e; cases e
    · cases hx
  rcases h.2.1 with ⟨a, -⟩ | ⟨-, h3⟩
  · exact absurd a hn
  · rw [← h3, thn_end]
theorem hld_start (l : L8) : Hld elm l.length l.length ⟨0, [], []⟩ [] l (parP l) := by
  refine ⟨⟨rfl, rfl⟩, .inr ⟨?_, ?_⟩, ⟨by show 0 + _ ≤ _; omega, by show 0 + _ ≤ _; omega, by show 0 + _ ≤ _; omega⟩, fun e he => (by cases he)⟩
  · rintro (e | ⟨x, hx, -⟩)
    · rw [show (⟨0, [], []⟩ : Fr).ks = [] from rfl, twi_nil] at e; cases e
    · cases hx
  · rw [par_val]
    unfold elm
    rw [if_neg (show ¬ (⟨0, [], []⟩ : Fr).k = 3 by decide)]
end F9
end Go.Proofs.YtemndagaicamiaaGreatDoor
