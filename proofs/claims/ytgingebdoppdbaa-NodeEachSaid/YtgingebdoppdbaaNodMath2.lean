/- Plain mathematics of maps whose keys stand once: what is put and dropped. -/
import Derived.Test.YtgingebdoppdbaaNodMath
namespace Go.Proofs.Ytgingebdoppdbaa
namespace N8
open Nw
set_option linter.unusedVariables false
theorem sortL_le (l : List L8) : (sortL l).length ≤ l.length := sortL_length_le l
theorem sortL_same {l m : List L8} (h : ∀ x, x ∈ l ↔ x ∈ m) : sortL l = sortL m :=
  asc_unique (sortL_facts l).1 (sortL_facts m).1 fun x => by rw [(sortL_facts l).2, (sortL_facts m).2]; exact h x
/-- No key stands twice. -/
def Once (l : List L8) : Prop := ∀ (i j : Nat) (hi : i < l.length) (hj : j < l.length), i < j → l[i]'hi ≠ l[j]'hj
theorem once_of {l : List L8} (h : (sortL l).length = l.length) : Once l := by
  intro i j hi hj hij e
  have hm : ∀ x, x ∈ l.eraseIdx j ↔ x ∈ l := by
    intro x
    refine ⟨fun hx => (List.eraseIdx_subset hx), fun hx => ?_⟩
    obtain ⟨n, hn, rfl⟩ := List.mem_iff_getElem.1 hx
    by_cases hnj : n = j
    · subst hnj
      rw [← e]
      exact List.mem_eraseIdx_iff_getElem.2 ⟨i, hi, by omega, rfl⟩
    · exact List.mem_eraseIdx_iff_getElem.2 ⟨n, hn, by omega, rfl⟩
  have h1 := sortL_le (l.eraseIdx j)
  rw [sortL_same hm, List.length_eraseIdx, if_pos hj] at h1
  omega
theorem once_tail {k : L8} {l : List L8} (h : Once (k :: l)) : Once l := fun i j hi hj hij => h (i + 1) (j + 1) (Nat.succ_lt_succ hi) (Nat.succ_lt_succ hj) (Nat.succ_lt_succ hij)
theorem once_head {k : L8} {l : List L8} (h : Once (k :: l)) : k ∉ l := by
  intro hk
  obtain ⟨n, hn, e⟩ := List.mem_iff_getElem.1 hk
  exact h 0 (n + 1) (Nat.succ_pos _) (Nat.succ_lt_succ hn) (Nat.succ_pos _) e.symm
theorem putK_no : ∀ {ks : List L8} {ds : List Nd} {x : L8} {v : Nd}, ks.length = ds.length → x ∉ ks → putK ks ds x v = ds
  | [], [], _, _, _, _ => by rw [putK]; intros; contradiction
  | k :: ks, d :: ds, x, v, hl, hx => by
    rw [putK, if_neg fun e => hx (by rw [e]; exact List.mem_cons_self ..), putK_no (Nat.succ.inj hl) fun h => hx (List.mem_cons_of_mem _ h)]
  | [], _ :: _, _, _, hl, _ => by cases hl
  | _ :: _, [], _, _, hl, _ => by cases hl
theorem putK_at : ∀ {ks : List L8} {ds : List Nd} {x : L8} {v : Nd} {j : Nat} (hj : j < ks.length), Once ks → ks.length = ds.length → ks[j]'hj = x → putK ks ds x v = ds.set j v
  | [], _, _, _, j, hj, _, _, _ => absurd hj (Nat.not_lt_zero _)
  | k :: ks, d :: ds, x, v, 0, hj, ho, hl, e => by
    have e' : k = x := e
    subst e'
    rw [putK, if_pos rfl, putK_no (Nat.succ.inj hl) (once_head ho)]; rfl
  | k :: ks, d :: ds, x, v, j + 1, hj, ho, hl, e => by
    have hk : k ≠ x := fun h => once_head ho (by rw [h, ← e]; exact List.getElem_mem _)
    rw [putK, if_neg hk, putK_at (Nat.lt_of_succ_lt_succ hj) (once_tail ho) (Nat.succ.inj hl) e]; rfl
  | _ :: _, [], _, _, _, _, _, hl, _ => by cases hl
theorem dropK_no : ∀ {ks : List L8} {ds : List Nd} {x : L8}, ks.length = ds.length → x ∉ ks → dropK ks ds x = ds
  | [], [], _, _, _ => by rw [dropK]; intros; contradiction
  | k :: ks, d :: ds, x, hl, hx => by
    rw [dropK, if_neg fun e => hx (by rw [e]; exact List.mem_cons_self ..), dropK_no (Nat.succ.inj hl) fun h => hx (List.mem_cons_of_mem _ h)]
  | [], _ :: _, _, hl, _ => by cases hl
  | _ :: _, [], _, hl, _ => by cases hl
theorem filter_no {ks : List L8} {x : L8} (h : x ∉ ks) : (ks.filter fun k => decide (k ≠ x)) = ks := by
  rw [List.filter_eq_self]
  intro a ha
  exact decide_eq_true fun e => h (by rw [← e]; exact ha)
theorem dropK_at : ∀ {ks : List L8} {ds : List Nd} {x : L8} {j : Nat} (hj : j < ks.length), Once ks → ks.length = ds.length → ks[j]'hj = x → dropK ks ds x = ds.eraseIdx j
  | [], _, _, j, hj, _, _, _ => absurd hj (Nat.not_lt_zero _)
  | k :: ks, d :: ds, x, 0, hj, ho, hl, e => by
    have e' : k = x := e
    subst e'
    rw [dropK, if_pos rfl, dropK_no (Nat.succ.inj hl) (once_head ho)]; rfl
  | k :: ks, d :: ds, x, j + 1, hj, ho, hl, e => by
    have hk : k ≠ x := fun h => once_head ho (by rw [h, ← e]; exact List.getElem_mem _)
    rw [dropK, if_neg hk, dropK_at (Nat.lt_of_succ_lt_succ hj) (once_tail ho) (Nat.succ.inj hl) e]; rfl
  | _ :: _, [], _, _, _, _, hl, _ => by cases hl
theorem filter_at : ∀ {ks : List L8} {x : L8} {j : Nat} (hj : j < ks.length), Once ks → ks[j]'hj = x → (ks.filter fun k => decide (k ≠ x)) = ks.eraseIdx j
  | [], _, j, hj, _, _ => absurd hj (Nat.not_lt_zero _)
  | k :: ks, x, 0, hj, ho, e => by
    have e' : k = x := e
    subst e'
    rw [List.filter_cons_of_neg (by simp), filter_no (once_head ho)]; rfl
  | k :: ks, x, j + 1, hj, ho, e => by
    have hk : k ≠ x := fun h => once_head ho (by rw [h, ← e]; exact List.getElem_mem _)
    rw [List.filter_cons_of_pos (by simpa using hk), filter_at (Nat.lt_of_succ_lt_succ hj) (once_tail ho) e]; rfl
theorem fine_once {d : Nd} (h : Fine d) (hk : d.kind = 3) : Once d.keys := by
  cases h with
  | mk h0 h3 hf hk' hd => exact once_of (hk' hk).2
/-- What stands empty in a valid node. -/
theorem fine_null {d : Nd} (h : Fine d) (hk : d.kind = 0) : d.keys = [] ∧ d.kids = [] ∧ d.text = [] := by
  cases h with
  | @mk k t ks ds h0 h3 hf hk' hd =>
    have hk0 : k = 0 := hk
    subst hk0
    unfold formB at hf
    simp at hf
    exact ⟨hf.1.2, hf.2, hf.1.1⟩
theorem fine_text {d : Nd} (h : Fine d) (hk : d.kind ≠ 1) : d.text = [] := by
  cases h with
  | @mk k t ks ds h0 h3 hf hk' hd =>
    have hk0 : k ≠ 1 := hk
    unfold formB at hf
    rw [decide_eq_true hk0] at hf
    simp at hf
    exact hf.1.1
theorem with_at {d : Nd} {x : L8} {v : Nd} (hf : Fine d) (hk : d.kind = 3) {j : Nat} (hj : j < d.keys.length) (e : d.keys[j]'hj = x) : withT d x v = .mk 3 [] d.keys (d.kids.set j v) := by
  have hx : x ∈ d.keys := by rw [← e]; exact List.getElem_mem _
  have hl : d.keys.length = d.kids.length := by cases hf with | mk h0 h3 hf hk' hd => exact (hk' hk).1
  unfold withT
  rw [if_neg (by rw [hk]; decide), if_pos hx, if_pos hx, List.append_nil, List.append_nil, putK_at hj (fine_once hf hk) hl e]
theorem with_no {d : Nd} {x : L8} {v : Nd} (hf : Fine d) (hk : d.kind = 0 ∨ d.kind = 3) (hx : x ∉ d.keys) : withT d x v = .mk 3 [] (d.keys ++ [x]) (d.kids ++ [v]) := by
  have hl : d.keys.length = d.kids.length := by
    rcases hk with hk | hk
    · obtain ⟨h1, h2, -⟩ := fine_null hf hk
      rw [h1, h2]; rfl
    · cases hf with | mk h0 h3 hf hk' hd => exact (hk' hk).1
  unfold withT
  rw [if_neg (by omega), if_neg hx, if_neg hx, putK_no hl hx]
theorem with_else {d : Nd} {x : L8} {v : Nd} (h0 : d.kind ≠ 0) (h3 : d.kind ≠ 3) : withT d x v = d := if_pos ⟨h0, h3⟩
theorem less_at {d : Nd} {x : L8} (hf : Fine d) (hk : d.kind = 3) {j : Nat} (hj : j < d.keys.length) (e : d.keys[j]'hj = x) : lessT d x = .mk 3 [] (d.keys.eraseIdx j) (d.kids.eraseIdx j) := by
  have hl : d.keys.length = d.kids.length := by cases hf with | mk h0 h3 hf hk' hd => exact (hk' hk).1
  unfold lessT
  rw [if_neg (by rw [hk]; decide), filter_at hj (fine_once hf hk) e, dropK_at hj (fine_once hf hk) hl e]
theorem less_no {d : Nd} {x : L8} (hf : Fine d) (h : d.kind = 3 → x ∉ d.keys) : lessT d x = d := by
  unfold lessT
  by_cases hk : d.kind = 3
  · have hl : d.keys.length = d.kids.length := by cases hf with | mk h0 h3 hf hk' hd => exact (hk' hk).1
    rw [if_neg (by rw [hk]; decide), filter_no (h hk), dropK_no hl (h hk), ← hk, ← fine_text hf (by rw [hk]; decide)]
    exact Nd.eta d
  · rw [if_pos hk]
end N8
end Go.Proofs.Ytgingebdoppdbaa
