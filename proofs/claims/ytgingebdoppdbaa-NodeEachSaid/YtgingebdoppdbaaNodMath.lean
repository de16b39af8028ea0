/- Nodes as trees; what the document says of them, as functions on trees. -/
import Derived.Test.YtgingebdoppdbaaNamListMath
namespace Go.Proofs.Ytgingebdoppdbaa
namespace N8
open Nw
set_option linter.unusedVariables false
/-- A node: its kind, its text, its keys, its kids. -/
inductive Nd where
  | mk (kind : Int) (text : L8) (keys : List L8) (kids : List Nd)
def Nd.kind : Nd → Int | .mk k _ _ _ => k
def Nd.text : Nd → L8 | .mk _ t _ _ => t
def Nd.keys : Nd → List L8 | .mk _ _ ks _ => ks
def Nd.kids : Nd → List Nd | .mk _ _ _ ds => ds
theorem Nd.eta (d : Nd) : Nd.mk d.kind d.text d.keys d.kids = d := by cases d; rfl
/-- Nothing. -/
def nul : Nd := .mk 0 [] [] []
mutual
/-- How many nodes there are. -/
def cntT : Nd → Nat
  | .mk _ _ _ ds => 1 + cntL ds
def cntL : List Nd → Nat
  | [] => 0
  | d :: ds => cntT d + cntL ds
end
mutual
/-- How deep the nodes are nested. -/
def depT : Nd → Nat
  | .mk _ _ _ ds => 1 + depL ds
def depL : List Nd → Nat
  | [] => 0
  | d :: ds => max (depT d) (depL ds)
end
mutual
/-- Are both the same? -/
def sameT : Nd → Nd → Bool
  | .mk k t ks ds, .mk k' t' ks' ds' => decide (k = k') && decide (t = t') && decide (ks = ks') && sameL ds ds'
def sameL : List Nd → List Nd → Bool
  | [], [] => true
  | d :: ds, e :: es => sameT d e && sameL ds es
  | [], _ :: _ => false
  | _ :: _, [] => false
end
mutual
/-- Are all texts and keys short? -/
def shortT : Nd → Bool
  | .mk _ t ks ds => decide (t.length ≤ 200) && (ks.all fun k => decide (k.length ≤ 200)) && shortL ds
def shortL : List Nd → Bool
  | [] => true
  | d :: ds => shortT d && shortL ds
end
/-- The form of a node without its kids. -/
def formB (k : Int) (t : L8) (ks : List L8) (n : Nat) : Bool :=
  !(decide (k ≠ 1) && decide (0 < t.length)) && !(decide (k ≠ 3) && decide (0 < ks.length)) && !(decide (k < 2) && decide (0 < n))
/-- The keys of a map: as many as kids, none twice. -/
def keysB (k : Int) (ks : List L8) (n : Nat) (left : Int) : Bool :=
  !(decide (k = 3) && (decide (ks.length ≠ n) || decide (left < (n : Int)) || decide ((sortL ks).length ≠ ks.length)))
mutual
/-- How many nodes may still be met behind this one; below 0: it is not valid. -/
def leftT : Nd → Int → Int → Int
  | .mk k t ks ds, deep, left =>
    if left - 1 < 0 ∨ 12 < deep ∨ k < 0 ∨ 3 < k then -1
    else if formB k t ks ds.length = false then -1
    else if keysB k ks ds.length (left - 1) = false then -1
    else leftL ds (deep + 1) (left - 1)
def leftL : List Nd → Int → Int → Int
  | [], _, left => left
  | d :: ds, deep, left => if leftT d deep left < 0 then -1 else leftL ds deep (leftT d deep left)
end
/-- Valid, of at most so many nodes. -/
def okT (most : Int) (d : Nd) : Bool := decide (0 ≤ leftT d 1 most)
def smallT (d : Nd) (most : Int) : Bool := okT most d && shortT d
/-- What stands by a key. -/
def getK : List L8 → List Nd → L8 → Option Nd
  | k :: ks, d :: ds, x => if k = x then some d else getK ks ds x
  | _, _, _ => none
def getT (d : Nd) (x : L8) : Option Nd := if d.kind = 3 then getK d.keys d.kids x else none
/-- The kids with v by the key x; what is left of keys and kids without x. -/
def putK : List L8 → List Nd → L8 → Nd → List Nd
  | k :: ks, d :: ds, x, v => (if k = x then v else d) :: putK ks ds x v
  | _, _, _, _ => []
def dropK : List L8 → List Nd → L8 → List Nd
  | k :: ks, d :: ds, x => if k = x then dropK ks ds x else d :: dropK ks ds x
  | _, _, _ => []
def withT (d : Nd) (x : L8) (v : Nd) : Nd :=
  if d.kind ≠ 0 ∧ d.kind ≠ 3 then d
  else .mk 3 [] (d.keys ++ if x ∈ d.keys then [] else [x]) (putK d.keys d.kids x v ++ if x ∈ d.keys then [] else [v])
def lessT (d : Nd) (x : L8) : Nd :=
  if d.kind ≠ 3 then d else .mk 3 [] (d.keys.filter fun k => decide (k ≠ x)) (dropK d.keys d.kids x)
mutual
/-- All texts, in order. -/
def textsT : Nd → List L8
  | .mk k t _ ds => (if k = 1 then [t] else []) ++ textsL ds
def textsL : List Nd → List L8
  | [] => []
  | d :: ds => textsT d ++ textsL ds
end
mutual
/-- With the keys of all maps in order. -/
def sortT : Nd → Nd
  | .mk k t ks ds => if k = 3 then .mk k t (sortL ks) ((sortL ks).map fun x => (getK ks (sortDs ds) x).getD nul) else .mk k t [] (sortDs ds)
def sortDs : List Nd → List Nd
  | [] => []
  | d :: ds => sortT d :: sortDs ds
end
/- ### Of counts and sizes. -/
theorem cntT_pos (d : Nd) : 1 ≤ cntT d := by cases d; unfold cntT; omega
theorem cntL_mem : ∀ {ds : List Nd} {d : Nd}, d ∈ ds → cntT d ≤ cntL ds
  | e :: ds, d, h => by
    unfold cntL
    rcases List.mem_cons.1 h with rfl | h
    · omega
    · have := cntL_mem h; omega
theorem cntL_len : ∀ (ds : List Nd), ds.length ≤ cntL ds
  | [] => Nat.zero_le _
  | d :: ds => by
    unfold cntL
    have := cntL_len ds
    have := cntT_pos d
    rw [List.length_cons]; omega
theorem cntL_app : ∀ (a b : List Nd), cntL (a ++ b) = cntL a + cntL b
  | [], b => by simp [cntL]
  | d :: a, b => by
    rw [List.cons_append, cntL, cntL, cntL_app a b]; omega
theorem cntL_take_succ {ds : List Nd} {k : Nat} (h : k < ds.length) : cntL (ds.take (k + 1)) = cntL (ds.take k) + cntT (ds[k]'h) := by
  rw [List.take_succ_eq_append_getElem h, cntL_app]
  rfl
theorem cntL_take_le (ds : List Nd) (k : Nat) : cntL (ds.take k) ≤ cntL ds := by
  have := cntL_app (ds.take k) (ds.drop k)
  rw [List.take_append_drop] at this
  omega
theorem depL_take_succ {ds : List Nd} {k : Nat} (h : k < ds.length) : depL (ds.take (k + 1)) = max (depL (ds.take k)) (depT (ds[k]'h)) := by
  induction ds generalizing k with
  | nil => cases h
  | cons d ds ih =>
    cases k with
    | zero => show max (depT d) 0 = max 0 (depT d); omega
    | succ k =>
      rw [List.take_succ_cons, List.take_succ_cons, depL, depL, ih (Nat.lt_of_succ_lt_succ h)]
      rw [List.getElem_cons_succ]; omega
theorem depT_cnt (n : Nat) : ∀ (d : Nd), cntT d ≤ n → depT d ≤ cntT d := by
  induction n with
  | zero => intro d h; have := cntT_pos d; omega
  | succ n ih =>
    intro d h
    cases d with
    | mk k t ks ds =>
      rw [cntT] at h
      rw [depT, cntT]
      have : ∀ (es : List Nd), cntL es ≤ n → depL es ≤ cntL es := by
        intro es
        induction es with
        | nil => intro _; exact Nat.le_refl _
        | cons e es ihe =>
          intro hes
          rw [cntL] at hes
          have h1 := ih e (by omega)
          have h2 := ihe (by omega)
          rw [depL, cntL]; omega
      have := this ds (by omega)
      omega
theorem sameL_len : ∀ {a b : List Nd}, sameL a b = true → a.length = b.length
  | [], [], _ => rfl
  | _ :: a, _ :: b, h => by
    rw [sameL, Bool.and_eq_true] at h
    rw [List.length_cons, List.length_cons, sameL_len h.2]
  | [], _ :: _, h => by cases h
  | _ :: _, [], h => by cases h
theorem sameT_refl (n : Nat) : ∀ d : Nd, cntT d ≤ n → sameT d d = true := by
  induction n with
  | zero => intro d h; have := cntT_pos d; omega
  | succ n ih =>
    intro d h
    cases d with
    | mk k t ks ds =>
      rw [cntT] at h
      have : ∀ (es : List Nd), cntL es ≤ n → sameL es es = true := by
        intro es
        induction es with
        | nil => intro _; rfl
        | cons e es ihe =>
          intro hes
          rw [cntL] at hes
          rw [sameL, ih e (by omega), ihe (by omega)]; rfl
      rw [sameT, decide_eq_true rfl, decide_eq_true rfl, decide_eq_true rfl, this ds (by omega)]; rfl
theorem sameT_eq (n : Nat) : ∀ (d e : Nd), cntT d ≤ n → sameT d e = true → d = e := by
  induction n with
  | zero => intro d e h; have := cntT_pos d; omega
  | succ n ih =>
    intro d e h hs
    cases d with
    | mk k t ks ds =>
      cases e with
      | mk k' t' ks' ds' =>
        rw [cntT] at h
        have : ∀ (a b : List Nd), cntL a ≤ n → sameL a b = true → a = b := by
          intro a
          induction a with
          | nil => intro b _ hb; cases b with | nil => rfl | cons x b => cases hb
          | cons x a iha =>
            intro b hb hs
            cases b with
            | nil => cases hs
            | cons y b =>
              rw [cntL] at hb
              rw [sameL, Bool.and_eq_true] at hs
              rw [ih x y (by omega) hs.1, iha b (by omega) hs.2]
        rw [sameT, Bool.and_eq_true, Bool.and_eq_true, Bool.and_eq_true] at hs
        obtain ⟨⟨⟨h1, h2⟩, h3⟩, h4⟩ := hs
        rw [of_decide_eq_true h1, of_decide_eq_true h2, of_decide_eq_true h3, this ds ds' (by omega) h4]
theorem sameT_iff {d e : Nd} : sameT d e = true ↔ d = e := ⟨sameT_eq _ d e (Nat.le_refl _), fun h => by subst h; exact sameT_refl _ d (Nat.le_refl _)⟩
/- ### What a valid node has. -/
theorem leftL_neg : ∀ (ds : List Nd) (deep left : Int), left < 0 → ds ≠ [] → leftL ds deep left = -1 := by
  intro ds deep left h hne
  cases ds with
  | nil => exact absurd rfl hne
  | cons d ds =>
    cases d with
    | mk k t ks es =>
      have : leftT (.mk k t ks es) deep left = -1 := by rw [leftT, if_pos (.inl (by omega))]
      rw [leftL, this, if_pos (by decide)]
mutual
theorem leftT_cnt : ∀ (d : Nd) (deep left : Int), 0 ≤ leftT d deep left → leftT d deep left = left - (cntT d : Int)
  | .mk k t ks ds, deep, left, h => by
    rw [leftT] at h ⊢
    split at h
    · exact absurd h (by decide)
    · rename_i h1
      rw [if_neg h1]
      split at h
      · exact absurd h (by decide)
      · rename_i h2
        rw [if_neg h2]
        split at h
        · exact absurd h (by decide)
        · rename_i h3
          rw [if_neg h3, leftL_cnt ds (deep + 1) (left - 1) h, cntT]; omega
theorem leftL_cnt : ∀ (ds : List Nd) (deep left : Int), 0 ≤ leftL ds deep left → leftL ds deep left = left - (cntL ds : Int)
  | [], deep, left, h => by rw [leftL, cntL]; omega
  | d :: ds, deep, left, h => by
    rw [leftL] at h ⊢
    split at h
    · exact absurd h (by decide)
    · rename_i h1
      rw [if_neg h1]
      have e := leftT_cnt d deep left (by omega)
      rw [leftL_cnt ds deep _ h, e, cntL]; omega
end
theorem ok_cnt {most : Int} {d : Nd} (h : okT most d = true) : (cntT d : Int) ≤ most := by
  have h1 : 0 ≤ leftT d 1 most := of_decide_eq_true h
  have := leftT_cnt d 1 most h1
  omega
/-- The form of a node and its kids: what valid means, without the counts. -/
inductive Fine : Nd → Prop
  | mk {k : Int} {t : L8} {ks : List L8} {ds : List Nd} (h0 : 0 ≤ k) (h3 : k ≤ 3) (hf : formB k t ks ds.length = true) (hk : k = 3 → ks.length = ds.length ∧ (sortL ks).length = ks.length) (hd : ∀ d ∈ ds, Fine d) : Fine (.mk k t ks ds)
mutual
theorem leftT_fine : ∀ (d : Nd) (deep left : Int), 0 ≤ leftT d deep left → Fine d
  | .mk k t ks ds, deep, left, h => by
    rw [leftT] at h
    split at h
    · exact absurd h (by decide)
    · rename_i h1
      split at h
      · exact absurd h (by decide)
      · rename_i h2
        split at h
        · exact absurd h (by decide)
        · rename_i h3
          refine .mk (by omega) (by omega) (by simpa using h2) ?_ (leftL_fine ds (deep + 1) (left - 1) h)
          intro hk
          unfold keysB at h3
          rw [decide_eq_true hk] at h3
          simp only [Bool.true_and, Bool.not_eq_false', Bool.or_eq_true, decide_eq_true_eq, not_or] at h3
          simp at h3
          exact ⟨h3.1.1, h3.2⟩
theorem leftL_fine : ∀ (ds : List Nd) (deep left : Int), 0 ≤ leftL ds deep left → ∀ d ∈ ds, Fine d
  | [], _, _, _ => fun d hd => by cases hd
  | e :: ds, deep, left, h => by
    rw [leftL] at h
    split at h
    · exact absurd h (by decide)
    · rename_i h1
      intro d hd
      rcases List.mem_cons.1 hd with he | hd
      · rw [he]; exact leftT_fine e deep left (by omega)
      · exact leftL_fine ds deep _ h d hd
end
theorem ok_fine {most : Int} {d : Nd} (h : okT most d = true) : Fine d := leftT_fine d 1 most (of_decide_eq_true h)
end N8
end Go.Proofs.Ytgingebdoppdbaa
