/- Mathematics of the program's way: one word from the beginning of what is left; the words until nothing is left. -/
import Derived.Test.YtfafoognjodeiaaDoorRefWrd1
import Derived.Lib.SlTrimSet
namespace Go.Proofs.YtfafoognjodeiaaDoor
namespace W15
open Nw
set_option linter.unusedVariables false
/-- The word on the way, and what is left: up to a blank or the end. -/
def scF : Nat → L8 → L8 → Option (L8 × L8)
  | 0, _, _ => none
  | _ + 1, O, [] => some (O, [])
  | n + 1, O, c :: r => if isBl c = true then some (O, c :: r) else match pcL (c :: r) with
    | none => none
    | some (p, r') => scF n (O ++ p) r'
theorem scF_fuel : ∀ (n m : Nat) (O l : L8), l.length < n → l.length < m → scF n O l = scF m O l
  | 0, _, _, _, h, _ => by omega
  | _ + 1, 0, _, _, _, h => by omega
  | n + 1, m + 1, O, [], _, _ => by rw [scF, scF]
  | n + 1, m + 1, O, c :: r, h, k => by
    rw [scF, scF]
    rw [List.length_cons] at h k
    split
    · rfl
    · cases hp : pcL (c :: r) with
      | none => rfl
      | some x =>
        obtain ⟨p, r'⟩ := x
        have := (pcL_len hp).2
        rw [List.length_cons] at this
        exact scF_fuel n m _ r' (by omega) (by omega)
def sc (O l : L8) : Option (L8 × L8) := scF (l.length + 1) O l
theorem sc_nil (O : L8) : sc O [] = some (O, []) := rfl
theorem sc_bl {c : UInt8} (h : isBl c = true) (O r : L8) : sc O (c :: r) = some (O, c :: r) := by
  unfold sc
  rw [List.length_cons, scF, if_pos h]
theorem sc_pc {c : UInt8} (h : isBl c = false) {r p r' : L8} (hp : pcL (c :: r) = some (p, r')) (O : L8) : sc O (c :: r) = sc (O ++ p) r' := by
  unfold sc
  rw [List.length_cons, scF, if_neg (by rw [h]; exact Bool.false_ne_true), hp]
  have := (pcL_len hp).2
  rw [List.length_cons] at this
  exact scF_fuel _ _ _ _ (by omega) (by omega)
theorem sc_bad {c : UInt8} (h : isBl c = false) {r : L8} (hp : pcL (c :: r) = none) (O : L8) : sc O (c :: r) = none := by
  unfold sc
  rw [List.length_cons, scF, if_neg (by rw [h]; exact Bool.false_ne_true), hp]
/-- Within quotes. -/
def scS (O l : L8) : Option (L8 × L8) := match sqL l with
  | none => none
  | some (p, r) => sc (O ++ p) r
def scD (O l : L8) : Option (L8 × L8) := match dqL l with
  | none => none
  | some (p, r) => sc (O ++ p) r
theorem scS_nil (O : L8) : scS O [] = none := rfl
theorem scS_39 (O r : L8) : scS O (39 :: r) = sc O r := by unfold scS; rw [sqL, if_pos rfl]; simp
theorem scS_c {c : UInt8} (h : c ≠ 39) (O r : L8) : scS O (c :: r) = scS (O ++ [c]) r := by
  unfold scS; rw [sqL, if_neg h]
  cases sqL r with
  | none => rfl
  | some x => simp
theorem scD_nil (O : L8) : scD O [] = none := rfl
theorem scD_34 (O r : L8) : scD O (34 :: r) = sc O r := by unfold scD; rw [dq_34]; simp
theorem scD_c {c : UInt8} (h : c ≠ 34) (h2 : c ≠ 92) (O r : L8) : scD O (c :: r) = scD (O ++ [c]) r := by
  unfold scD; rw [dq_c h h2]
  cases dqL r with
  | none => rfl
  | some x => simp
theorem scD_92 (O : L8) (d : UInt8) (r : L8) : scD O (92 :: d :: r) = scD (O ++ (if d = 34 ∨ d = 92 then [d] else [92, d])) r := by
  unfold scD; rw [dq_92]
  cases dqL r with
  | none => rfl
  | some x => simp
/-- A backslash and a byte that stand for the byte alone. -/
def escB (l : L8) : Bool := Lib.hasPrefix l [92, 34] || Lib.hasPrefix l [92, 92]
theorem escB_cases (l : L8) : (escB l = true ∧ ∃ d r, l = 92 :: d :: r ∧ (d = 34 ∨ d = 92)) ∨ (escB l = false ∧ ∀ d r, l = 92 :: d :: r → ¬ (d = 34 ∨ d = 92)) := by
  unfold escB Lib.hasPrefix
  match l with
  | [] => exact .inr ⟨rfl, fun d r h => by cases h⟩
  | [c] => exact .inr ⟨by simp [List.isPrefixOf], fun d r h => by cases h⟩
  | c :: d :: r =>
    by_cases hc : c = 92
    · subst hc
      by_cases hd : d = 34 ∨ d = 92
      · exact .inl ⟨by rcases hd with rfl | rfl <;> simp [List.isPrefixOf], d, r, rfl, hd⟩
      · refine .inr ⟨?_, fun d' r' h => by injection h with _ h; injection h with h _; rw [← h]; exact hd⟩
        have h1 : d ≠ 34 := fun e => hd (.inl e)
        have h2 : d ≠ 92 := fun e => hd (.inr e)
        simp [List.isPrefixOf, Ne.symm h1, Ne.symm h2]
    · exact .inr ⟨by simp [List.isPrefixOf, Ne.symm hc], fun d' r' h => by injection h with h _; exact absurd h hc⟩
theorem scD_esc {O : L8} {d : UInt8} {r : L8} (h : d = 34 ∨ d = 92) : scD O (92 :: d :: r) = scD (O ++ [d]) r := by rw [scD_92, if_pos h]
theorem scD_more {O : L8} {c : UInt8} {r : L8} (h : c ≠ 34) (he : escB (c :: r) = false) : scD O (c :: r) = scD (O ++ [c]) r := by
  by_cases hc : c = 92
  · subst hc
    rcases escB_cases (92 :: r) with ⟨h1, _⟩ | ⟨_, h2⟩
    · rw [h1] at he; cases he
    · match r with
      | [] => rfl
      | d :: r =>
        have hd := h2 d r rfl
        rw [scD_92, if_neg hd, scD_c (fun e => hd (.inl e)) (fun e => hd (.inr e))]
        simp
  · exact scD_c h hc O r
theorem sc_39 (O r : L8) : sc O (39 :: r) = scS O r := by
  unfold scS
  cases h : sqL r with
  | none => rw [sc_bad (by decide) (by rw [pc_39, h])]
  | some x => obtain ⟨p, r'⟩ := x; rw [sc_pc (by decide) (by rw [pc_39, h])]
theorem sc_34 (O r : L8) : sc O (34 :: r) = scD O r := by
  unfold scD
  cases h : dqL r with
  | none => rw [sc_bad (by decide) (by rw [pc_34, h])]
  | some x => obtain ⟨p, r'⟩ := x; rw [sc_pc (by decide) (by rw [pc_34, h])]
theorem sc_92 (O : L8) (d : UInt8) (r : L8) : sc O (92 :: d :: r) = sc (O ++ [d]) r := sc_pc (by decide) (pc_92 d r) _
theorem sc_92e (O : L8) : sc O [92] = none := sc_bad (by decide) rfl _
theorem sc_c {c : UInt8} (hb : isBl c = false) (h1 : c ≠ 92) (h2 : c ≠ 39) (h3 : c ≠ 34) (O r : L8) : sc O (c :: r) = sc (O ++ [c]) r := sc_pc hb (pc_plain h1 h2 h3 r) _
/- ### Words by words. -/
theorem drop_len {l r : L8} {k : Nat} (h : r = l.drop k) : r = l.drop (l.length - r.length) ∧ r.length ≤ l.length := by
  have h2 : r.length = l.length - k := by rw [h, List.length_drop]
  refine ⟨?_, by omega⟩
  by_cases hk : k ≤ l.length
  · rw [show l.length - r.length = k by omega]; exact h
  · rw [show l.length - r.length = l.length by omega, List.drop_length, h]
    exact List.drop_eq_nil_of_le (by omega)
theorem scF_T : ∀ (n : Nat) (O l : L8), l.length < n → (scF n O l = none → T (some O) l = none) ∧ ∀ w r, scF n O l = some (w, r) → T (some O) l = (T none r).map (w :: ·) ∧ (∃ m, r = l.drop m ∧ m ≤ l.length ∧ w.length ≤ O.length + m ∧ (∀ c t, l = c :: t → isBl c = false → 0 < m)) ∧ (r = [] ∨ ∃ c t, r = c :: t ∧ isBl c = true)
  | 0, _, _, h => by omega
  | n + 1, O, [], _ => by
    refine ⟨fun h => (by rw [scF] at h; cases h), fun w r h => ?_⟩
    rw [scF] at h; cases h
    exact ⟨T_end O [] (.inl rfl), ⟨0, rfl, Nat.le_refl _, Nat.le_refl _, fun c t h => (by cases h)⟩, .inl rfl⟩
  | n + 1, O, c :: l, hn => by
    rw [List.length_cons] at hn
    rw [scF]
    by_cases hb : isBl c = true
    · rw [if_pos hb]
      refine ⟨fun h => (by cases h), fun w r h => ?_⟩
      cases h
      exact ⟨T_end O _ (.inr ⟨c, l, rfl, hb⟩), ⟨0, rfl, Nat.zero_le _, Nat.le_refl _, fun c' t h hc => (by injection h with h _; rw [← h, hb] at hc; cases hc)⟩, .inr ⟨c, l, rfl, hb⟩⟩
    · rw [if_neg hb]
      have hb' : isBl c = false := Bool.eq_false_iff.2 hb
      cases hp : pcL (c :: l) with
      | none => exact ⟨fun _ => T_bad hb' hp _, fun w r h => (by cases h)⟩
      | some x =>
        obtain ⟨p, r'⟩ := x
        have hl := pcL_len hp
        rw [List.length_cons] at hl
        obtain ⟨k0, hk0⟩ := pcL_drop hp
        have hdl := drop_len hk0
        obtain ⟨k, hkk⟩ : ∃ k, (c :: l).length - r'.length = k := ⟨_, rfl⟩
        obtain ⟨hk, hrl⟩ := hdl
        rw [hkk] at hk
        rw [List.length_cons] at hkk hrl
        obtain ⟨h1, h2⟩ := scF_T n (O ++ p) r' (by omega)
        rw [T_pc hb' hp, Option.getD_some]
        refine ⟨h1, fun w r h => ?_⟩
        obtain ⟨e1, ⟨m, e2, e3, e4, _⟩, e5⟩ := h2 w r h
        refine ⟨e1, ⟨k + m, by rw [e2, hk, List.drop_drop], by rw [List.length_cons]; omega, ?_, fun _ _ _ _ => by omega⟩, e5⟩
        rw [List.length_append] at e4
        omega
where
  sqL_drop : ∀ {l p r : L8}, sqL l = some (p, r) → ∃ k, r = l.drop k
    | [], p, r, h => by cases h
    | c :: l, p, r, h => by
      rw [sqL] at h
      split at h
      · cases h; exact ⟨1, rfl⟩
      · cases hs : sqL l with
        | none => rw [hs] at h; cases h
        | some x =>
          rw [hs] at h
          simp only [Option.map_some, Option.some.injEq, Prod.mk.injEq] at h
          obtain ⟨rfl, rfl⟩ := h
          obtain ⟨k, hk⟩ := sqL_drop (p := x.1) (r := x.2) hs
          exact ⟨k + 1, by rw [List.drop_succ_cons]; exact hk⟩
  dqL_drop : ∀ {l p r : L8}, dqL l = some (p, r) → ∃ k, r = l.drop k
    | [], p, r, h => by cases h
    | [c], p, r, h => by
      rw [dqL] at h
      split at h
      · cases h; exact ⟨1, rfl⟩
      · cases h
    | c :: d :: l, p, r, h => by
      rw [dqL] at h
      split at h
      · cases h; exact ⟨1, rfl⟩
      · split at h
        · cases hs : dqL l with
          | none => rw [hs] at h; cases h
          | some x =>
            rw [hs] at h
            simp only [Option.map_some, Option.some.injEq, Prod.mk.injEq] at h
            obtain ⟨rfl, rfl⟩ := h
            obtain ⟨k, hk⟩ := dqL_drop (p := x.1) (r := x.2) hs
            exact ⟨k + 2, by rw [List.drop_succ_cons, List.drop_succ_cons]; exact hk⟩
        · cases hs : dqL (d :: l) with
          | none => rw [hs] at h; cases h
          | some x =>
            rw [hs] at h
            simp only [Option.map_some, Option.some.injEq, Prod.mk.injEq] at h
            obtain ⟨rfl, rfl⟩ := h
            obtain ⟨k, hk⟩ := dqL_drop (p := x.1) (r := x.2) hs
            exact ⟨k + 1, by rw [List.drop_succ_cons]; exact hk⟩
  pcL_drop : ∀ {l p r : L8}, pcL l = some (p, r) → ∃ k, r = l.drop k
    | [], p, r, h => by cases h
    | [c], p, r, h => by
      rw [pcL] at h
      split at h
      · cases h
      · cases h; exact ⟨1, rfl⟩
    | c :: d :: l, p, r, h => by
      rw [pcL] at h
      split at h
      · cases h; exact ⟨2, rfl⟩
      · split at h
        · obtain ⟨k, hk⟩ := sqL_drop h; exact ⟨k + 1, by rw [List.drop_succ_cons]; exact hk⟩
        · split at h
          · obtain ⟨k, hk⟩ := dqL_drop h; exact ⟨k + 1, by rw [List.drop_succ_cons]; exact hk⟩
          · cases h; exact ⟨1, rfl⟩
/-- What scan tells at a text that begins with a byte that is no blank. -/
theorem sc_none {c : UInt8} {t : L8} (hb : isBl c = false) (h : sc [] (c :: t) = none) : T none (c :: t) = none := by
  rw [← T_begin hb]
  exact (scF_T _ _ _ (Nat.lt_succ_self _)).1 h
theorem sc_some {c : UInt8} {t w r : L8} (hb : isBl c = false) (h : sc [] (c :: t) = some (w, r)) : T none (c :: t) = (T none r).map (w :: ·) ∧ (∃ m, r = (c :: t).drop m ∧ m ≤ (c :: t).length ∧ w.length ≤ m ∧ 0 < m) := by
  rw [← T_begin hb]
  obtain ⟨h1, ⟨m, h2, h3, h4, h5⟩, _⟩ := (scF_T _ _ _ (Nat.lt_succ_self _)).2 w r h
  rw [List.length_nil, Nat.zero_add] at h4
  exact ⟨h1, m, h2, h3, h4, h5 c t rfl hb⟩
/-- Blanks at the beginning. -/
theorem trim_T : ∀ l : L8, T none (Lib.trimLeftS l [32, 9]) = T none l ∧ (Lib.trimLeftS l [32, 9]).length ≤ l.length ∧ (Lib.trimLeftS l [32, 9] = [] ∨ ∃ c t, Lib.trimLeftS l [32, 9] = c :: t ∧ isBl c = false)
  | [] => ⟨rfl, Nat.le_refl _, .inl rfl⟩
  | c :: l => by
    have hc : ([32, 9] : L8).contains c = isBl c := by unfold isBl; by_cases h1 : c = 32 <;> by_cases h2 : c = 9 <;> simp [h1, h2]
    unfold Lib.trimLeftS
    rw [List.dropWhile_cons, hc]
    cases hb : isBl c with
    | true =>
      obtain ⟨h1, h2, h3⟩ := trim_T l
      rw [if_pos rfl, T_bl hb]
      refine ⟨?_, by rw [List.length_cons]; exact Nat.le_succ_of_le h2, h3⟩
      have : (T none l).map (Option.toList (none : Option L8) ++ ·) = T none l := by cases T none l <;> rfl
      rw [this]; exact h1
    | false => rw [if_neg Bool.false_ne_true]; exact ⟨rfl, Nat.le_refl _, .inr ⟨c, l, rfl, hb⟩⟩
end W15
end Go.Proofs.YtfafoognjodeiaaDoor
