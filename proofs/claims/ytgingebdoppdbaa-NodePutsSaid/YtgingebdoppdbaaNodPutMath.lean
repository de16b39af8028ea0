/- Plain mathematics of NodePuts. -/
import Derived.Test.YtgingebdoppdbaaRefLess
namespace Go.Proofs.Ytgingebdoppdbaa
open Nw
set_option linter.unusedVariables false
namespace N8
theorem getK_app : ∀ {ks : List L8} {ds : List Nd} (ks' : List L8) (ds' : List Nd) (y : L8), ks.length = ds.length → getK (ks ++ ks') (ds ++ ds') y = (match getK ks ds y with | some d => some d | none => getK ks' ds' y)
  | [], [], ks', ds', y, _ => by
    rw [show getK [] [] y = none by rw [getK]; intros; contradiction]; rfl
  | k :: ks, d :: ds, ks', ds', y, h => by
    rw [List.cons_append, List.cons_append, getK, getK]
    by_cases hk : k = y
    · rw [if_pos hk, if_pos hk]
    · rw [if_neg hk, if_neg hk, getK_app ks' ds' y (Nat.succ.inj h)]
  | [], _ :: _, _, _, _, h => by cases h
  | _ :: _, [], _, _, _, h => by cases h
theorem getK_nil (ds : List Nd) (y : L8) : getK [] ds y = none := by rw [getK]; intros; contradiction
theorem getK_put_self {x : L8} {v : Nd} : ∀ {ks : List L8} {ds : List Nd}, ks.length = ds.length → x ∈ ks → getK ks (putK ks ds x v) x = some v
  | [], _, _, hx => by cases hx
  | k :: ks, d :: ds, h, hx => by
    rw [putK, getK]
    by_cases hk : k = x
    · rw [if_pos hk, if_pos hk]
    · rw [if_neg hk]
      rcases List.mem_cons.1 hx with e | hx
      · exact absurd e.symm hk
      · exact getK_put_self (Nat.succ.inj h) hx
  | _ :: _, [], h, _ => by cases h
theorem getK_put_no {x : L8} {v : Nd} : ∀ {ks : List L8} {ds : List Nd}, ks.length = ds.length → x ∉ ks → getK ks (putK ks ds x v) x = none
  | [], _, _, _ => getK_nil _ _
  | k :: ks, d :: ds, h, hx => by
    rw [putK, getK, if_neg fun e => hx (by rw [e]; exact List.mem_cons_self ..), getK_put_no (Nat.succ.inj h) fun h => hx (List.mem_cons_of_mem _ h)]
  | _ :: _, [], h, _ => by cases h
theorem getK_put_oth {x y : L8} {v : Nd} (hxy : x ≠ y) : ∀ {ks : List L8} {ds : List Nd}, ks.length = ds.length → getK ks (putK ks ds x v) y = getK ks ds y
  | [], _, _ => by rw [getK_nil, getK_nil]
  | k :: ks, d :: ds, h => by
    rw [putK, getK, getK]
    by_cases hk : k = y
    · rw [if_pos hk, if_pos hk, if_neg fun e => hxy (by rw [← e, hk])]
    · rw [if_neg hk, if_neg hk, getK_put_oth hxy (Nat.succ.inj h)]
  | _ :: _, [], h => by cases h
theorem getK_drop_self {x : L8} : ∀ {ks : List L8} {ds : List Nd}, ks.length = ds.length → getK (ks.filter (notK x)) (dropK ks ds x) x = none
  | [], _, _ => by exact getK_nil _ _
  | k :: ks, d :: ds, h => by
    rw [dropK]
    by_cases hk : k = x
    · rw [if_pos hk, List.filter_cons_of_neg (by simp [notK, hk]), getK_drop_self (Nat.succ.inj h)]
    · rw [if_neg hk, List.filter_cons_of_pos (by simp [notK, hk]), getK, if_neg hk, getK_drop_self (Nat.succ.inj h)]
  | _ :: _, [], h => by cases h
theorem getK_drop_oth {x y : L8} (hxy : x ≠ y) : ∀ {ks : List L8} {ds : List Nd}, ks.length = ds.length → getK (ks.filter (notK x)) (dropK ks ds x) y = getK ks ds y
  | [], _, _ => by rw [show ([] : List L8).filter (notK x) = [] from rfl, getK_nil, getK_nil]
  | k :: ks, d :: ds, h => by
    rw [dropK]
    by_cases hk : k = x
    · rw [if_pos hk, List.filter_cons_of_neg (by simp [notK, hk]), getK_drop_oth hxy (Nat.succ.inj h), getK, if_neg fun e => hxy (by rw [← hk, e])]
    · rw [if_neg hk, List.filter_cons_of_pos (by simp [notK, hk]), getK, getK, getK_drop_oth hxy (Nat.succ.inj h)]
  | _ :: _, [], h => by cases h
theorem map_len {n : Nd} (hf : Fine n) (hk : n.kind = 0 ∨ n.kind = 3) : n.keys.length = n.kids.length := by
  rcases hk with hk | hk
  · obtain ⟨h1, h2, -⟩ := fine_null hf hk
    rw [h1, h2]; rfl
  · exact fine_keys hf hk
theorem with_eq {n : Nd} (x : L8) (v : Nd) (hk : n.kind = 0 ∨ n.kind = 3) : withT n x v = .mk 3 [] (n.keys ++ if x ∈ n.keys then [] else [x]) (putK n.keys n.kids x v ++ if x ∈ n.keys then [] else [v]) := if_neg (by omega)
theorem get_map (t : L8) (ks : List L8) (ds : List Nd) (y : L8) : getT (.mk 3 t ks ds) y = getK ks ds y := if_pos rfl
theorem with_get {n : Nd} (hf : Fine n) (hk : n.kind = 0 ∨ n.kind = 3) (x : L8) (v : Nd) : getT (withT n x v) x = some v := by
  have hl := map_len hf hk
  rw [with_eq x v hk, get_map, getK_app _ _ _ (by rw [putK_len hl]; exact hl)]
  by_cases hx : x ∈ n.keys
  · rw [getK_put_self hl hx]
  · rw [getK_put_no hl hx, if_neg hx, if_neg hx]
    show getK [x] [v] x = some v
    rw [getK, if_pos rfl]
theorem with_get_oth {n : Nd} (hf : Fine n) (hk : n.kind = 0 ∨ n.kind = 3) {x y : L8} (hxy : x ≠ y) (v : Nd) : getT (withT n x v) y = getT n y := by
  have hl := map_len hf hk
  have hn : getT n y = getK n.keys n.kids y := by
    unfold getT
    rcases hk with hk | hk
    · rw [if_neg (by omega), (fine_null hf hk).1, getK_nil]
    · rw [if_pos hk]
  rw [with_eq x v hk, get_map, getK_app _ _ _ (by rw [putK_len hl]; exact hl), getK_put_oth hxy hl, hn]
  cases hg : getK n.keys n.kids y with
  | some d => rfl
  | none =>
    by_cases hx : x ∈ n.keys
    · rw [if_pos hx]; exact getK_nil _ _
    · rw [if_neg hx, if_neg hx]
      show getK [x] [v] y = none
      rw [getK, if_neg hxy, getK_nil]
theorem less_eq {m : Nd} (hk : m.kind = 3) (x : L8) : lessT m x = .mk 3 [] (m.keys.filter (notK x)) (dropK m.keys m.kids x) := if_neg fun h => h hk
theorem with_kind {n : Nd} (hk : n.kind = 0 ∨ n.kind = 3) (x : L8) (v : Nd) : (withT n x v).kind = 3 := by rw [with_eq x v hk]; rfl
theorem less_get {m : Nd} (hf : Fine m) (hk : m.kind = 3) (x : L8) : getT (lessT m x) x = none := by rw [less_eq hk, get_map, getK_drop_self (fine_keys hf hk)]
theorem less_get_oth {m : Nd} (hf : Fine m) (hk : m.kind = 3) {x y : L8} (hxy : x ≠ y) : getT (lessT m x) y = getT m y := by
  rw [less_eq hk, get_map, getK_drop_oth hxy (fine_keys hf hk)]
  exact (if_pos hk).symm
theorem less_lens {m : Nd} (hf : Fine m) (x : L8) : (lessT m x).kind = 3 → (lessT m x).keys.length = (lessT m x).kids.length := by
  intro h
  by_cases hk : m.kind = 3
  · rw [less_eq hk]; exact (drop_len (fine_keys hf hk)).symm
  · rw [show lessT m x = m from if_pos hk] at h; exact absurd h hk
theorem less_keys {m : Nd} (hf : Fine m) (hk : m.kind = 3) {x : L8} (hx : x ∈ m.keys) : (lessT m x).keys.length + 1 = m.keys.length := by
  obtain ⟨j, hj, e⟩ := List.mem_iff_getElem.1 hx
  rw [less_at hf hk hj e]
  show (m.keys.eraseIdx j).length + 1 = _
  rw [List.length_eraseIdx, if_pos hj]; omega
theorem with_mem {n : Nd} (hk : n.kind = 0 ∨ n.kind = 3) (x : L8) (v : Nd) : x ∈ (withT n x v).keys := by
  rw [with_eq x v hk]
  show x ∈ n.keys ++ _
  by_cases hx : x ∈ n.keys
  · rw [if_pos hx, List.append_nil]; exact hx
  · rw [if_neg hx]; exact List.mem_append_right _ (List.mem_singleton.2 rfl)
theorem get_cnt (n : Nd) (x : L8) : cntT ((getT n x).getD nul) ≤ cntT n := by
  cases hg : getT n x with
  | none =>
    have := cntT_pos n
    show cntT nul ≤ _
    have : cntT nul = 1 := rfl
    omega
  | some e =>
    cases n with
    | mk k t ks ds =>
      unfold getT at hg
      split at hg
      · have h2 := cntL_mem (getK_mem hg)
        show cntT e ≤ _
        rw [cntT]
        show cntT e ≤ 1 + cntL ds
        have : cntT e ≤ cntL ds := h2
        omega
      · cases hg
end N8
end Go.Proofs.Ytgingebdoppdbaa
