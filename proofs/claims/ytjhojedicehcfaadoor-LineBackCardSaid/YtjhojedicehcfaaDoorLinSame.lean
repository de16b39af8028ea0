/- That the lines of a file, joined and split again, are the same lines: the file. -/
import Derived.Test.YtjhojedicehcfaaDoorLinBackMath
namespace Go.Proofs.YtjhojedicehcfaaDoor
namespace Q6
set_option linter.unusedVariables false
theorem prevB_take {l : List UInt8} {j k : Nat} (h : k < j) : prevB (l.take j) k = prevB l k := by
  unfold prevB
  by_cases e : k = 0
  · rw [if_pos e, if_pos e]
  · rw [if_neg e, if_neg e, getD_take (by omega)]
theorem begK_take {l : List UInt8} {j k : Nat} (h : k < j) : begK (l.take j) k = begK l k := by
  unfold begK
  rw [getD_take h, prevB_take h]
theorem trimN_last {l : List UInt8} {n m : Nat} (hm : 0 < m) (hmn : m ≤ n) (h : l.getD (m - 1) 0 ≠ 32) : m ≤ trimN l n := by
  induction n with
  | zero => omega
  | succ n ih =>
    unfold trimN
    by_cases e : l.getD n 0 = 32
    · rw [if_pos e]
      by_cases em : m = n + 1
      · subst em
        exact absurd e h
      · exact ih (by omega)
    · rw [if_neg e]; exact hmn
theorem trimN_end {l : List UInt8} {n : Nat} (h : 0 < trimN l n) : l.getD (trimN l n - 1) 0 ≠ 32 := by
  induction n with
  | zero => exact absurd h (Nat.lt_irrefl _)
  | succ n ih =>
    unfold trimN at h ⊢
    by_cases e : l.getD n 0 = 32
    · rw [if_pos e] at h ⊢; exact ih h
    · rw [if_neg e]; exact e
theorem trimN_full {l : List UInt8} {n : Nat} (hn : 0 < n) (h : l.getD (n - 1) 0 ≠ 32) : trimN l n = n := by
  cases n with
  | zero => omega
  | succ n => unfold trimN; rw [if_neg (show ¬ l.getD n 0 = 32 from h)]
theorem endAt_ge (n : Nat) : ∀ (l : List UInt8) (k e : Nat), l.length - k ≤ n → k ≤ l.length → endAt l k = some e → k ≤ e := by
  induction n with
  | zero =>
    intro l k e hk hkl h
    rw [endAt_out (by omega)] at h
    cases h; exact hkl
  | succ n ih =>
    intro l k e hk hkl h
    by_cases hlt : k < l.length
    · rcases begK_cases l k with hb | hb | hb
      · rcases Bool.eq_false_or_eq_true (good (l.getD k 0)) with hg | hg
        · rw [endAt_next hlt hb hg] at h
          have := ih l (k + 1) e (by omega) (by omega) h
          omega
        · rw [endAt_raw hlt hb hg] at h; cases h
      · rcases scanE_cases l k with hs | ⟨v, m, hs, -, hm, hkm, hml⟩
        · rw [endAt_bad hlt hb hs] at h; cases h
        · rw [endAt_quote hlt hb hs hm hkm] at h
          have := ih l m e (by omega) hml h
          omega
      · rw [endAt_mark hlt hb] at h
        cases h; exact Nat.le_refl _
    · rw [endAt_out (by omega)] at h
      cases h; exact hkl
/-- Where the content ends in what is left of it. -/
theorem endAt_take (n : Nat) : ∀ (l : List UInt8) (k e j : Nat), l.length - k ≤ n → endAt l k = some e → j = trimN l e → k ≤ j → endAt (l.take j) k = some j := by
  induction n with
  | zero =>
    intro l k e j hk h hj hkj
    have hje := trimN_le l e
    have hel := endAt_le _ l k e (Nat.le_refl _) h
    have hlen : (l.take j).length = j := by rw [List.length_take]; omega
    rw [endAt_out (by omega), hlen]
  | succ n ih =>
    intro l k e j hk h hj hkj
    have hje := trimN_le l e
    have hel := endAt_le _ l k e (Nat.le_refl _) h
    have hlen : (l.take j).length = j := by rw [List.length_take]; omega
    by_cases ekj : k = j
    · rw [endAt_out (by omega), hlen]
    · have hlt : k < j := by omega
      have hkl : k < l.length := by omega
      have hkt : k < (l.take j).length := by omega
      rcases begK_cases l k with hb | hb | hb
      · rcases Bool.eq_false_or_eq_true (good (l.getD k 0)) with hg | hg
        · rw [endAt_next hkl hb hg] at h
          rw [endAt_next hkt (by rw [begK_take hlt]; exact hb) (by rw [getD_take hlt]; exact hg)]
          exact ih l (k + 1) e j (by omega) h hj (by omega)
        · rw [endAt_raw hkl hb hg] at h; cases h
      · rcases scanE_cases l k with hs | ⟨v, m, hs, -, hm, hkm, hml⟩
        · rw [endAt_bad hkl hb hs] at h; cases h
        · rw [endAt_quote hkl hb hs hm hkm] at h
          have hme : m ≤ e := endAt_ge _ l m e (Nat.le_refl _) hml h
          obtain ⟨-, -, -, hlast⟩ := scan_take hs hm hml (Nat.le_refl _)
          have hmj : m ≤ j := by rw [hj]; exact trimN_last (by omega) hme hlast
          obtain ⟨s1, s2, s3, -⟩ := scan_take hs hm hmj (by omega)
          rw [endAt_quote hkt (by rw [begK_take hlt]; exact hb) s1 s2 s3]
          exact ih l m e j (by omega) h hj hmj
      · rw [endAt_mark hkl hb] at h
        cases h; omega
/-- A content is its own content. -/
theorem sayL_again {l t : List UInt8} (h : sayL l = some t) : sayL t = some t := by
  unfold sayL at h
  cases he : endAt l 0 with
  | none => rw [he] at h; cases h
  | some e =>
    rw [he] at h
    have ht : l.take (trimN l e) = t := by cases h; rfl
    subst ht
    have hje := trimN_le l e
    have hel := endAt_le _ l 0 e (Nat.le_refl _) he
    have hend := endAt_take _ l 0 e (trimN l e) (Nat.le_refl _) he rfl (Nat.zero_le _)
    unfold sayL
    rw [hend]
    show some ((l.take (trimN l e)).take (trimN (l.take (trimN l e)) (trimN l e))) = _
    congr 1
    by_cases h0 : trimN l e = 0
    · rw [h0]; rfl
    · rw [trimN_full (by omega) (by rw [getD_take (by omega)]; exact trimN_end (by omega))]
      exact List.take_of_length_le (by rw [List.length_take]; exact Nat.min_le_left ..)
theorem sayL_take {l t : List UInt8} (h : sayL l = some t) : ∃ j, t = l.take j ∧ j ≤ l.length ∧ (0 < j → l.getD (j - 1) 0 ≠ 32) ∧ (0 < j → ¬ l.getD 0 0 = 35) := by
  unfold sayL at h
  cases he : endAt l 0 with
  | none => rw [he] at h; cases h
  | some e =>
    rw [he] at h
    have hje := trimN_le l e
    have hel := endAt_le _ l 0 e (Nat.le_refl _) he
    refine ⟨trimN l e, by cases h; rfl, by omega, trimN_end, fun hp e35 => ?_⟩
    have hpos : 0 < l.length := by omega
    rw [endAt_mark hpos (by unfold begK; rw [if_pos ⟨e35, rfl⟩])] at he
    cases he
    rw [show trimN l 0 = 0 from rfl] at hp
    omega
/-- A line as text. -/
def lineL (x : Ln) : List UInt8 := List.replicate x.ind 32 ++ x.text
def joinL (ls : List Ln) : List UInt8 := (ls.map fun x => lineL x ++ [10]).flatten
theorem joinL_cons (x : Ln) (ls : List Ln) : joinL (x :: ls) = lineL x ++ 10 :: joinL ls := by unfold joinL; simp
theorem joinL_nil : joinL [] = [] := rfl
theorem joinL_app (a b : List Ln) : joinL (a ++ b) = joinL a ++ joinL b := by unfold joinL; simp
/-- A line as Split hands it back. -/
def Fine (x : Ln) : Prop := x.text ≠ [] ∧ (∀ c ∈ x.text, c ≠ 10) ∧ x.text.getD 0 0 ≠ 32 ∧ x.text.getD 0 0 ≠ 35 ∧ x.text.getD (x.text.length - 1) 0 ≠ 32 ∧ sayL x.text = some x.text ∧ ¬ (x.ind = 0 ∧ marker x.text = true)
theorem indN_rep (k : Nat) (t : List UInt8) (h : t.getD 0 0 ≠ 32) : indN (List.replicate k 32 ++ t) = k := by
  induction k with
  | zero =>
    show indN t = 0
    unfold indN
    cases t with
    | nil => rfl
    | cons c t =>
      have hc : c ≠ 32 := h
      rw [List.takeWhile_cons, decide_eq_false hc]; rfl
  | succ k ih =>
    unfold indN at ih ⊢
    rw [List.replicate_succ, List.cons_append, List.takeWhile_cons]
    simp only [decide_true, if_true, List.length_cons]
    rw [ih]
theorem rep_drop (k : Nat) (t : List UInt8) : (List.replicate k 32 ++ t).drop k = t := by
  rw [List.drop_append, List.drop_of_length_le (by rw [List.length_replicate]; exact Nat.le_refl _), List.length_replicate, Nat.sub_self]; rfl
theorem oneL_fine {x : Ln} (h : Fine x) : oneL (lineL x) = some (x.ind, x.text) := by
  obtain ⟨h1, h2, h3, h4, h5, h6, h7⟩ := h
  unfold oneL lineL
  rw [indN_rep _ _ h3, rep_drop, h6]
  show (if x.ind = 0 ∧ marker x.text = true then none else some (x.ind, x.text)) = _
  rw [if_neg h7]
theorem rowN_line {r t : List UInt8} (h : ∀ c ∈ r, c ≠ 10) : rowN (r ++ 10 :: t) = r.length := by
  unfold rowN
  induction r with
  | nil => rfl
  | cons c r ih =>
    rw [List.cons_append, List.takeWhile_cons, decide_eq_true (h c (List.mem_cons_self ..))]
    simp only [if_true, List.length_cons]
    rw [ih fun x hx => h x (List.mem_cons_of_mem _ hx)]
theorem lineL_no {x : Ln} (h : Fine x) : ∀ c ∈ lineL x, c ≠ 10 := by
  intro c hc
  unfold lineL at hc
  rcases List.mem_append.1 hc with hc | hc
  · rw [List.eq_of_mem_replicate hc]; decide
  · exact h.2.1 c hc
/-- Lines numbered anew. -/
def again : Nat → List Ln → List Ln
  | _, [] => []
  | no, x :: ls => ⟨no + 1, x.ind, x.text⟩ :: again (no + 1) ls
theorem split_join : ∀ (ls : List Ln) (no : Nat) (acc : List Ln), (∀ x ∈ ls, Fine x) → splitL no acc (joinL ls) = (acc ++ again no ls, 0, 0)
  | [], no, acc, _ => by rw [joinL_nil, splitL_nil]; unfold again; rw [List.append_nil]
  | x :: ls, no, acc, h => by
    have hx := h x (List.mem_cons_self ..)
    have hrow := rowN_line (t := joinL ls) (lineL_no hx)
    have hne : joinL (x :: ls) ≠ [] := by rw [joinL_cons]; simp
    have htake : (joinL (x :: ls)).take (rowN (joinL (x :: ls))) = lineL x := by rw [joinL_cons, hrow]; exact List.take_left
    have hdrop : (joinL (x :: ls)).drop (rowN (joinL (x :: ls)) + 1) = joinL ls := by
      rw [joinL_cons, hrow, List.drop_append, List.drop_of_length_le (Nat.le_succ _), List.nil_append, show (lineL x).length + 1 - (lineL x).length = 1 by omega]; rfl
    rw [splitL_next hne (by rw [htake]; exact oneL_fine hx), hdrop, if_neg hx.1, split_join ls (no + 1) _ fun y hy => h y (List.mem_cons_of_mem _ hy)]
    show _ = (acc ++ (⟨no + 1, x.ind, x.text⟩ :: again (no + 1) ls), 0, 0)
    rw [List.append_assoc]; rfl
theorem takeWhile_all {p : UInt8 → Bool} : ∀ (l : List UInt8), ∀ c ∈ l.takeWhile p, p c = true
  | [], c, h => by cases h
  | b :: l, c, h => by
    rw [List.takeWhile_cons] at h
    split at h
    · rename_i hb
      rcases List.mem_cons.1 h with h | h
      · subst h; exact hb
      · exact takeWhile_all l c h
    · cases h
theorem take_takeWhile (p : UInt8 → Bool) (l : List UInt8) : l.take (l.takeWhile p).length = l.takeWhile p := by
  induction l with
  | nil => rfl
  | cons b l ih =>
    rw [List.takeWhile_cons]
    split
    · rw [List.length_cons, List.take_succ_cons, ih]
    · rfl
theorem drop_indN (l : List UInt8) (h : indN l < l.length) : l.getD (indN l) 0 ≠ 32 := by
  unfold indN at h ⊢
  induction l with
  | nil => cases h
  | cons b l ih =>
    rw [List.takeWhile_cons] at h ⊢
    by_cases hb : b = 32
    · rw [decide_eq_true hb] at h ⊢
      simp only [if_true, List.length_cons] at h ⊢
      show l.getD _ 0 ≠ 32
      exact ih (by omega)
    · rw [decide_eq_false hb]
      exact hb
theorem takeWhile_le (p : UInt8 → Bool) (l : List UInt8) : (l.takeWhile p).length ≤ l.length := by
  induction l with
  | nil => exact Nat.le_refl _
  | cons b l ih =>
    rw [List.takeWhile_cons]
    split
    · rw [List.length_cons, List.length_cons]; omega
    · exact Nat.zero_le _
theorem indN_le (l : List UInt8) : indN l ≤ l.length := by unfold indN; exact takeWhile_le _ _
theorem one_fine {row : List UInt8} (hrow : ∀ c ∈ row, c ≠ 10) {k : Nat} {t : List UInt8} (h : oneL row = some (k, t)) (ht : t ≠ []) (no : Nat) : Fine ⟨no, k, t⟩ ∧ k + t.length ≤ row.length := by
  unfold oneL at h
  cases hs : sayL (row.drop (indN row)) with
  | none => rw [hs] at h; cases h
  | some u =>
    rw [hs] at h
    have h' : (if indN row = 0 ∧ marker u = true then none else some (indN row, u)) = some (k, t) := h
    split at h'
    · cases h'
    · rename_i hm
      cases h'
      obtain ⟨j, hj, hjl, hlast, hfirst⟩ := sayL_take hs
      rw [List.length_drop] at hjl
      have hjp : 0 < j := by
        cases j with
        | zero => exact absurd (by rw [hj]; rfl) ht
        | succ j => exact Nat.succ_pos _
      have hlen : t.length = j := by rw [hj, List.length_take, List.length_drop]; omega
      have hi : indN row < row.length := by omega
      have h0 : t.getD 0 0 = row.getD (indN row) 0 := by
        rw [hj, getD_take hjp, List.getD_eq_getElem?_getD, List.getElem?_drop, List.getD_eq_getElem?_getD]; rfl
      refine ⟨⟨ht, ?_, ?_, ?_, ?_, sayL_again hs, hm⟩, by omega⟩
      · intro c hc
        refine hrow c (List.drop_subset (indN row) row (List.take_subset j _ ?_))
        rw [← hj]; exact hc
      · rw [h0]; exact drop_indN row hi
      · show ¬ t.getD 0 0 = 35
        rw [hj, getD_take hjp]; exact hfirst hjp
      · show t.getD (t.length - 1) 0 ≠ 32
        rw [hlen]
        have e1 : t.getD (j - 1) 0 = (row.drop (indN row)).getD (j - 1) 0 := by rw [hj, getD_take (by omega)]
        rw [e1]; exact hlast hjp
/-- What Split hands back: fine lines, no longer together than the file. -/
theorem split_fine (n : Nat) : ∀ (l : List UInt8) (no : Nat) (acc ls : List Ln) (m : Nat), l.length ≤ n → (∀ x ∈ acc, Fine x) → splitL no acc l = (ls, m, 0) →
    (∀ x ∈ ls, Fine x) ∧ m = 0 ∧ (joinL ls).length ≤ (joinL acc).length + l.length + (if l = [] then 0 else 1) := by
  induction n with
  | zero =>
    intro l no acc ls m hl ha h
    obtain rfl : l = [] := List.length_eq_zero_iff.1 (by omega)
    rw [splitL_nil] at h
    cases h
    exact ⟨ha, rfl, by simp⟩
  | succ n ih =>
    intro l no acc ls m hl ha h
    by_cases he : l = []
    · subst he
      rw [splitL_nil] at h
      cases h
      exact ⟨ha, rfl, by simp⟩
    · have hpos := List.length_pos_iff.2 he
      have hrl : rowN l ≤ l.length := by unfold rowN; exact takeWhile_le _ _
      cases ho : oneL (l.take (rowN l)) with
      | none =>
        rw [splitL_bad he ho] at h
        have h3 : (3 : Int) = 0 := congrArg (fun p => p.2.2) h
        exact absurd h3 (by decide)
      | some p =>
        obtain ⟨k, t⟩ := p
        rw [splitL_next he ho] at h
        have hrow : ∀ c ∈ l.take (rowN l), c ≠ 10 := by
          intro c hc
          unfold rowN at hc
          rw [take_takeWhile] at hc
          exact of_decide_eq_true (takeWhile_all l c hc)
        have hacc : (∀ x ∈ (if t = [] then acc else acc ++ [⟨no + 1, k, t⟩]), Fine x) ∧ (joinL (if t = [] then acc else acc ++ [⟨no + 1, k, t⟩])).length ≤ (joinL acc).length + rowN l + 1 := by
          by_cases ht : t = []
          · rw [if_pos ht]; exact ⟨ha, by omega⟩
          · rw [if_neg ht]
            obtain ⟨hf, hlen⟩ := one_fine hrow ho ht (no + 1)
            rw [List.length_take] at hlen
            refine ⟨?_, ?_⟩
            · intro x hx
              rcases List.mem_append.1 hx with hx | hx
              · exact ha x hx
              · rw [List.mem_singleton.1 hx]; exact hf
            · rw [joinL_app, List.length_append, joinL_cons, joinL_nil]
              unfold lineL
              simp only [List.length_append, List.length_replicate, List.length_cons, List.length_nil]
              omega
        obtain ⟨h1, h2, h3⟩ := ih _ (no + 1) _ ls m (by rw [List.length_drop]; omega) hacc.1 h
        refine ⟨h1, h2, ?_⟩
        rw [if_neg he]
        rw [List.length_drop] at h3
        have h4 := hacc.2
        by_cases hd : l.drop (rowN l + 1) = []
        · rw [if_pos hd] at h3
          have h5 := congrArg List.length hd
          rw [List.length_drop, List.length_nil] at h5
          omega
        · rw [if_neg hd] at h3
          have h5 := List.length_pos_iff.2 hd
          rw [List.length_drop] at h5
          omega
end Q6
end Go.Proofs.YtjhojedicehcfaaDoor
