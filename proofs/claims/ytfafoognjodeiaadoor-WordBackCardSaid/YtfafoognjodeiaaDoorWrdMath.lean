/- Plain mathematics of command lines: pieces, words, joined words; splitting what was joined. -/
import Derived.Test.YtfafoognjodeiaaDoorNamListMath
namespace Go.Proofs.YtfafoognjodeiaaDoor
namespace W15
open Nw
set_option linter.unusedVariables false
def isBl (c : UInt8) : Bool := c = 32 || c = 9
/-- Up to the closing quote: what stands there, and what comes behind. -/
def sqL : L8 → Option (L8 × L8)
  | [] => none
  | c :: r => if c = 39 then some ([], r) else (sqL r).map fun x => (c :: x.1, x.2)
def dqL : L8 → Option (L8 × L8)
  | [] => none
  | [c] => if c = 34 then some ([], []) else none
  | c :: d :: r => if c = 34 then some ([], d :: r) else if c = 92 then (dqL r).map fun x => ((if d = 34 ∨ d = 92 then [d] else [92, d]) ++ x.1, x.2) else (dqL (d :: r)).map fun x => (c :: x.1, x.2)
/-- A piece of a word. -/
def pcL : L8 → Option (L8 × L8)
  | [] => none
  | [c] => if c = 92 ∨ c = 39 ∨ c = 34 then none else some ([c], [])
  | c :: d :: r => if c = 92 then some ([d], r) else if c = 39 then sqL (d :: r) else if c = 34 then dqL (d :: r) else some ([c], d :: r)
theorem sqL_len : ∀ (l : L8) {p r : L8}, sqL l = some (p, r) → p.length + r.length < l.length
  | [], p, r, h => by cases h
  | c :: l, p, r, h => by
    rw [sqL] at h
    split at h
    · cases h; simp
    · cases hs : sqL l with
      | none => rw [hs] at h; cases h
      | some x =>
        rw [hs] at h
        simp only [Option.map_some, Option.some.injEq, Prod.mk.injEq] at h
        obtain ⟨rfl, rfl⟩ := h
        have := sqL_len l (p := x.1) (r := x.2) hs
        simp only [List.length_cons]; omega
theorem dqL_len : ∀ (l : L8) {p r : L8}, dqL l = some (p, r) → p.length + r.length < l.length
  | [], p, r, h => by cases h
  | [c], p, r, h => by
    rw [dqL] at h
    split at h
    · cases h; simp
    · cases h
  | c :: d :: l, p, r, h => by
    rw [dqL] at h
    split at h
    · cases h; simp
    · split at h
      · cases hs : dqL l with
        | none => rw [hs] at h; cases h
        | some x =>
          rw [hs] at h
          simp only [Option.map_some, Option.some.injEq, Prod.mk.injEq] at h
          obtain ⟨rfl, rfl⟩ := h
          have := dqL_len l (p := x.1) (r := x.2) hs
          split <;> simp only [List.length_append, List.length_cons, List.length_nil] <;> omega
      · cases hs : dqL (d :: l) with
        | none => rw [hs] at h; cases h
        | some x =>
          rw [hs] at h
          simp only [Option.map_some, Option.some.injEq, Prod.mk.injEq] at h
          obtain ⟨rfl, rfl⟩ := h
          have := dqL_len (d :: l) (p := x.1) (r := x.2) hs
          simp only [List.length_cons] at this ⊢; omega
theorem pcL_len {l p r : L8} (h : pcL l = some (p, r)) : p.length + r.length ≤ l.length ∧ r.length < l.length := by
  match l, h with
  | [], h => cases h
  | [c], h =>
    rw [pcL] at h
    split at h
    · cases h
    · cases h; simp
  | c :: d :: l, h =>
    rw [pcL] at h
    split at h
    · cases h; simp only [List.length_cons, List.length_nil]; omega
    · split at h
      · have := sqL_len _ h; simp only [List.length_cons] at this ⊢; omega
      · split at h
        · have := dqL_len _ h; simp only [List.length_cons] at this ⊢; omega
        · cases h; simp only [List.length_cons, List.length_nil]; omega
/-- The words, behind the beginning of a word or between words. -/
def wrd : Nat → Option L8 → L8 → Option (List L8)
  | 0, _, _ => none
  | _ + 1, cur, [] => some cur.toList
  | n + 1, cur, c :: r => if isBl c = true then (wrd n none r).map (cur.toList ++ ·) else match pcL (c :: r) with
    | none => none
    | some (p, r') => wrd n (some (cur.getD [] ++ p)) r'
theorem wrd_fuel : ∀ (n m : Nat) (cur : Option L8) (l : L8), l.length < n → l.length < m → wrd n cur l = wrd m cur l
  | 0, _, _, _, h, _ => by omega
  | _ + 1, 0, _, _, _, h => by omega
  | n + 1, m + 1, cur, [], _, _ => by rw [wrd, wrd]
  | n + 1, m + 1, cur, c :: r, h, k => by
    rw [wrd, wrd]
    rw [List.length_cons] at h k
    rw [wrd_fuel n m none r (by omega) (by omega)]
    split
    · rfl
    · cases hp : pcL (c :: r) with
      | none => rfl
      | some x =>
        obtain ⟨p, r'⟩ := x
        have := (pcL_len hp).2
        rw [List.length_cons] at this
        exact wrd_fuel n m _ r' (by omega) (by omega)
def T (cur : Option L8) (l : L8) : Option (List L8) := wrd (l.length + 1) cur l
theorem T_nil (cur : Option L8) : T cur [] = some cur.toList := rfl
theorem T_bl {c : UInt8} (h : isBl c = true) (cur : Option L8) (r : L8) : T cur (c :: r) = (T none r).map (cur.toList ++ ·) := by
  unfold T
  rw [List.length_cons, wrd, if_pos h]
theorem T_pc {c : UInt8} (h : isBl c = false) {r p r' : L8} (hp : pcL (c :: r) = some (p, r')) (cur : Option L8) : T cur (c :: r) = T (some (cur.getD [] ++ p)) r' := by
  unfold T
  rw [List.length_cons, wrd, if_neg (by rw [h]; exact Bool.false_ne_true), hp]
  have := (pcL_len hp).2
  rw [List.length_cons] at this
  exact wrd_fuel _ _ _ _ (by omega) (by omega)
theorem T_bad {c : UInt8} (h : isBl c = false) {r : L8} (hp : pcL (c :: r) = none) (cur : Option L8) : T cur (c :: r) = none := by
  unfold T
  rw [List.length_cons, wrd, if_neg (by rw [h]; exact Bool.false_ne_true), hp]
/-- A word that has begun with nothing. -/
theorem T_begin {c : UInt8} (h : isBl c = false) (r : L8) : T (some []) (c :: r) = T none (c :: r) := by
  cases hp : pcL (c :: r) with
  | none => rw [T_bad h hp, T_bad h hp]
  | some x => obtain ⟨p, r'⟩ := x; rw [T_pc h hp, T_pc h hp]; rfl
theorem T_end (w : L8) (r : L8) (h : r = [] ∨ ∃ c r', r = c :: r' ∧ isBl c = true) : T (some w) r = (T none r).map (w :: ·) := by
  rcases h with rfl | ⟨c, r', rfl, hc⟩
  · rfl
  · rw [T_bl hc, T_bl hc]
    cases T none r' <;> rfl
/- ### How much the words are. -/
def cost (w : L8) : Nat := 4 * w.length + 3
def costs (ws : List L8) : Nat := (ws.map cost).sum
theorem costs_app (a b : List L8) : costs (a ++ b) = costs a + costs b := by unfold costs; rw [List.map_append, List.sum_append]
theorem wrd_cost : ∀ (n : Nat) (cur : Option L8) (l : L8) (ws : List L8), wrd n cur l = some ws → costs ws ≤ costs cur.toList + 7 * l.length
  | 0, _, _, _, h => by cases h
  | n + 1, cur, [], ws, h => by rw [wrd] at h; cases h; exact Nat.le_add_right _ _
  | n + 1, cur, c :: r, ws, h => by
    rw [wrd] at h
    rw [List.length_cons]
    split at h
    · cases hx : wrd n none r with
      | none => rw [hx] at h; cases h
      | some x =>
        rw [hx] at h
        simp only [Option.map_some, Option.some.injEq] at h
        subst h
        have := wrd_cost n none r x hx
        rw [costs_app]
        have h0 : costs (Option.toList (none : Option L8)) = 0 := rfl
        omega
    · cases hp : pcL (c :: r) with
      | none => rw [hp] at h; cases h
      | some x =>
        obtain ⟨p, r'⟩ := x
        rw [hp] at h
        have h1 := wrd_cost n _ r' ws h
        have h2 := pcL_len hp
        rw [List.length_cons] at h2
        have h3 : costs (Option.toList (some (cur.getD [] ++ p))) ≤ costs cur.toList + 4 * p.length + 3 := by
          cases cur with
          | none => simp [costs, cost]
          | some w => simp [costs, cost]; omega
        omega
theorem T_cost {l : L8} {ws : List L8} (h : T none l = some ws) : costs ws ≤ 7 * l.length := by
  have := wrd_cost _ _ _ _ h
  have h0 : costs (Option.toList (none : Option L8)) = 0 := rfl
  omega
/- ### Joined words. -/
def bareC (c : UInt8) : Bool := (97 ≤ c && c ≤ 122) || (65 ≤ c && c ≤ 90) || (48 ≤ c && c ≤ 57) || [46, 95, 45, 47, 58, 61, 44, 43, 64, 37].contains c
def bareB (w : L8) : Bool := !w.isEmpty && w.all bareC
def escC (c : UInt8) : L8 := if c = 39 then [39, 92, 39, 39] else [c]
def escL (w : L8) : L8 := w.flatMap escC
def qtL (w : L8) : L8 := if bareB w = true then w else 39 :: (escL w ++ [39])
def jnL : List L8 → L8
  | [] => []
  | w :: ws => qtL w ++ ws.flatMap fun x => 32 :: qtL x
theorem bare_facts {c : UInt8} (h : bareC c = true) : isBl c = false ∧ c ≠ 92 ∧ c ≠ 39 ∧ c ≠ 34 := by
  refine ⟨?_, ?_, ?_, ?_⟩
  · cases hb : isBl c with
    | false => rfl
    | true =>
      unfold isBl at hb
      rw [Bool.or_eq_true, decide_eq_true_iff, decide_eq_true_iff] at hb
      rcases hb with rfl | rfl <;> exact absurd h (by decide)
  · rintro rfl; exact absurd h (by decide)
  · rintro rfl; exact absurd h (by decide)
  · rintro rfl; exact absurd h (by decide)
theorem pc_plain {c : UInt8} (h1 : c ≠ 92) (h2 : c ≠ 39) (h3 : c ≠ 34) (r : L8) : pcL (c :: r) = some ([c], r) := by
  cases r with
  | nil => rw [pcL, if_neg (by simp [h1, h2, h3])]
  | cons d r => rw [pcL, if_neg h1, if_neg h2, if_neg h3]
theorem T_bare : ∀ (w : L8) (cur : Option L8) (r : L8), w ≠ [] → w.all bareC = true → T cur (w ++ r) = T (some (cur.getD [] ++ w)) r
  | [], _, _, h, _ => absurd rfl h
  | [c], cur, r, _, h => by
    rw [List.all_cons, List.all_nil, Bool.and_true] at h
    obtain ⟨h1, h2, h3, h4⟩ := bare_facts h
    rw [List.singleton_append, T_pc h1 (pc_plain h2 h3 h4 r)]
  | c :: d :: w, cur, r, _, h => by
    rw [List.all_cons, Bool.and_eq_true] at h
    obtain ⟨h1, h2, h3, h4⟩ := bare_facts h.1
    rw [List.cons_append, T_pc h1 (pc_plain h2 h3 h4 _), T_bare (d :: w) _ r (by simp) h.2]
    simp
theorem sq_run : ∀ (w r : L8), (39 : UInt8) ∉ w → sqL (w ++ 39 :: r) = some (w, r)
  | [], r, _ => by rw [List.nil_append, sqL, if_pos rfl]
  | c :: w, r, h => by
    have hc : c ≠ 39 := fun e => h (by rw [e]; exact List.mem_cons_self ..)
    rw [List.cons_append, sqL, if_neg hc, sq_run w r fun e => h (List.mem_cons_of_mem _ e)]
    rfl
theorem pc_sq {w r : L8} (h : (39 : UInt8) ∉ w) : pcL (39 :: (w ++ 39 :: r)) = some (w, r) := by
  have hs := sq_run w r h
  cases hx : w ++ 39 :: r with
  | nil => simp at hx
  | cons d t => rw [hx] at hs; rw [pcL, if_neg (by decide), if_pos rfl, hs]
theorem T_quoted : ∀ (w w1 : L8) (cur : Option L8) (r : L8), (39 : UInt8) ∉ w1 → T cur (39 :: (w1 ++ (escL w ++ 39 :: r))) = T (some (cur.getD [] ++ (w1 ++ w))) r
  | [], w1, cur, r, h => by
    rw [show escL [] = [] from rfl, List.nil_append, T_pc (by decide) (pc_sq h), List.append_nil]
  | c :: w, w1, cur, r, h => by
    rw [show escL (c :: w) = escC c ++ escL w from rfl]
    by_cases hc : c = 39
    · subst hc
      rw [show escC 39 = [39, 92, 39, 39] from rfl]
      have e1 : (w1 ++ ([39, 92, 39, 39] ++ escL w ++ 39 :: r)) = w1 ++ 39 :: (92 :: 39 :: 39 :: ([] ++ (escL w ++ 39 :: r))) := by simp
      rw [e1, T_pc (by decide) (pc_sq h), T_pc (r := 39 :: 39 :: ([] ++ (escL w ++ 39 :: r))) (by decide) (by rw [pcL, if_pos rfl]), T_quoted w [] _ r (by simp)]
      simp
    · rw [show escC c = [c] from by unfold escC; rw [if_neg hc]]
      have e1 : (w1 ++ ([c] ++ escL w ++ 39 :: r)) = (w1 ++ [c]) ++ (escL w ++ 39 :: r) := by simp
      rw [e1, T_quoted w (w1 ++ [c]) cur r (by simp [h, Ne.symm hc])]
      simp
theorem T_qt (w r : L8) : T none (qtL w ++ r) = T (some w) r := by
  unfold qtL
  split
  · rename_i hb
    unfold bareB at hb
    rw [Bool.and_eq_true] at hb
    rw [T_bare w none r (fun e => by rw [e] at hb; exact absurd hb.1 (by decide)) hb.2]
    rfl
  · have := T_quoted w [] none r (by simp)
    rw [List.nil_append] at this
    rw [List.cons_append, List.append_assoc, List.singleton_append, this]
    rfl
theorem T_more : ∀ (ws : List L8) (w : L8) (e : L8), (e = [] ∨ e = [32]) → T (some w) ((ws.flatMap fun x => 32 :: qtL x) ++ e) = some (w :: ws)
  | [], w, e, h => by
    rcases h with rfl | rfl
    · rfl
    · rfl
  | x :: ws, w, e, h => by
    rw [List.flatMap_cons, List.append_assoc, List.cons_append, T_bl (by decide), T_qt, T_more ws x e h]
    rfl
/-- Splitting joined words gives the words. -/
theorem T_jn (ws : List L8) (e : L8) (h : e = [] ∨ e = [32]) : T none (jnL ws ++ e) = some ws := by
  cases ws with
  | nil => rcases h with rfl | rfl <;> rfl
  | cons w ws => rw [jnL, List.append_assoc, T_qt, T_more ws w e h]
theorem T_jn2 (ws : List L8) : T none (9 :: 32 :: (jnL ws ++ [32])) = some ws := by
  rw [T_bl (by decide), T_bl (by decide), T_jn ws [32] (.inr rfl)]
  rfl
theorem escL_len (w : L8) : (escL w).length ≤ 4 * w.length := by
  induction w with
  | nil => exact Nat.le_refl _
  | cons c w ih =>
    rw [show escL (c :: w) = escC c ++ escL w from rfl, List.length_append, List.length_cons]
    have : (escC c).length ≤ 4 := by unfold escC; split <;> simp
    omega
theorem qtL_len (w : L8) : (qtL w).length + 1 ≤ cost w := by
  unfold qtL cost
  have := escL_len w
  split
  · omega
  · rw [List.length_cons, List.length_append, List.length_singleton]; omega
theorem jnL_len (ws : List L8) : (jnL ws).length ≤ costs ws := by
  have key : ∀ ws : List L8, (ws.flatMap fun x => 32 :: qtL x).length ≤ costs ws := by
    intro ws
    induction ws with
    | nil => exact Nat.le_refl _
    | cons w ws ih =>
      have := qtL_len w
      rw [List.flatMap_cons, List.length_append, List.length_cons]
      have : costs (w :: ws) = cost w + costs ws := by simp [costs]
      omega
  cases ws with
  | nil => exact Nat.le_refl _
  | cons w ws =>
    have h1 := qtL_len w
    have h2 := key ws
    have : costs (w :: ws) = cost w + costs ws := by simp [costs]
    rw [jnL, List.length_append]
    omega
theorem jnL_snoc {l : List L8} {i : Nat} (h : i < l.length) : jnL (l.take (i + 1)) = jnL (l.take i) ++ (if i = 0 then [] else [32]) ++ qtL (l[i]'h) := by
  cases l with
  | nil => exact absurd h (Nat.not_lt_zero _)
  | cons w ws =>
    cases i with
    | zero => simp [jnL]
    | succ i =>
      have h' : i < ws.length := Nat.lt_of_succ_lt_succ h
      rw [List.take_succ_cons, List.take_succ_cons, jnL, jnL, List.take_succ_eq_append_getElem h', List.flatMap_append, if_neg (Nat.succ_ne_zero i)]
      simp
/-- What Split answers. -/
def errW (s : L8) : Int := match T none s with
  | none => 3
  | some ws => if 32 < ws.length then 9 else 0
def wordsW (s : L8) : List L8 := match T none s with
  | none => []
  | some ws => if 32 < ws.length then [] else ws
end W15
end Go.Proofs.YtfafoognjodeiaaDoor
