/- Plain mathematics of a node whose maps stand in order, and of a node whose texts are turned. Plain mathematics of NodeEach. -/
import Derived.Test.YtgingebdoppdbaaNodMath2
import Derived.Test.YtgingebdoppdbaaNodRepl
import Derived.Test.YtgingebdoppdbaaRefNod7
namespace Go.Proofs.Ytgingebdoppdbaa
namespace N8
open Nw
set_option linter.unusedVariables false
theorem sortDs_len : ∀ ds : List Nd, (sortDs ds).length = ds.length
  | [] => rfl
  | d :: ds => by rw [sortDs, List.length_cons, List.length_cons, sortDs_len ds]
theorem sortDs_at : ∀ (ds : List Nd) (j : Nat) (h : j < ds.length) (g : j < (sortDs ds).length), (sortDs ds)[j]'g = sortT (ds[j]'h)
  | d :: ds, 0, _, _ => rfl
  | d :: ds, j + 1, h, g => sortDs_at ds j (Nat.lt_of_succ_lt_succ h) (by rw [sortDs, List.length_cons] at g; omega)
theorem getK_at : ∀ {ks : List L8} {ds : List Nd} {j : Nat} (hj : j < ks.length) (hd : j < ds.length), Once ks → getK ks ds (ks[j]'hj) = some (ds[j]'hd)
  | k :: ks, d :: ds, 0, _, _, _ => by rw [getK]; exact if_pos rfl
  | k :: ks, d :: ds, j + 1, hj, hd, ho => by
    have h : k ≠ (k :: ks)[j + 1]'hj := fun e => ho 0 (j + 1) (Nat.succ_pos _) hj (Nat.succ_pos _) e
    rw [getK, if_neg h]
    exact getK_at (Nat.lt_of_succ_lt_succ hj) (Nat.lt_of_succ_lt_succ hd) (once_tail ho)
/-- The i-th kid goes to the p-th place. -/
def atM (k : Int) (ks S : List L8) (i p : Nat) : Prop := if k = 3 then ∃ (h : i < ks.length) (g : p < S.length), ks[i]'h = S[p]'g else p = i
/-- What stands in the row once j kids are put. -/
def SM (at_ : Nat → Nat → Prop) (ds M : List Nd) (j : Nat) : Prop := M.length = ds.length ∧ ∀ i p, i < j → at_ i p → ∀ (hi : i < ds.length) (hp : p < M.length), M[p]'hp = sortT (ds[i]'hi)
theorem SM.start (at_ : Nat → Nat → Prop) (ds : List Nd) : SM at_ ds ds 0 := ⟨rfl, fun i p h => absurd h (Nat.not_lt_zero _)⟩
theorem once_inj {l : List L8} (ho : Once l) {i j : Nat} (hi : i < l.length) (hj : j < l.length) (e : l[i]'hi = l[j]'hj) : i = j := by
  rcases Nat.lt_trichotomy i j with h | h | h
  · exact absurd e (ho i j hi hj h)
  · exact h
  · exact absurd e.symm (ho j i hj hi h)
theorem once_sortL {l : List L8} : Once (sortL l) := once_of (by rw [sortL_sortL])
theorem SM.next {k : Int} {t : L8} {ks : List L8} {ds M : List Nd} {j p0 : Nat} (hf : Fine (.mk k t ks ds)) (h : SM (atM k ks (sortL ks)) ds M j) (hj : j < ds.length) (ha : atM k ks (sortL ks) j p0) :
    SM (atM k ks (sortL ks)) ds (M.set p0 (sortT (ds[j]'hj))) (j + 1) := by
  obtain ⟨h1, h2⟩ := h
  refine ⟨by rw [List.length_set]; exact h1, fun i p hi hap hid hp => ?_⟩
  rw [List.length_set] at hp
  by_cases hk : k = 3
  · subst hk
    have ho : Once ks := fine_once hf rfl
    unfold atM at ha hap
    rw [if_pos rfl] at ha hap
    obtain ⟨a1, a2, a3⟩ := ha
    obtain ⟨b1, b2, b3⟩ := hap
    by_cases hpp : p0 = p
    · subst hpp
      have : i = j := once_inj ho b1 a1 (by rw [b3, a3])
      subst this
      rw [List.getElem_set_self]
    · rw [List.getElem_set_ne hpp]
      refine h2 i p ?_ (by unfold atM; rw [if_pos rfl]; exact ⟨b1, b2, b3⟩) hid hp
      rcases Nat.lt_succ_iff_lt_or_eq.1 hi with h | h
      · exact h
      · subst h
        exact absurd (once_inj once_sortL a2 b2 (by rw [← a3, ← b3])) hpp
  · unfold atM at ha hap
    rw [if_neg hk] at ha hap
    subst ha; subst hap
    by_cases hpp : p0 = p
    · subst hpp
      rw [List.getElem_set_self]
    · rw [List.getElem_set_ne hpp]
      exact h2 p p (by omega) (by unfold atM; rw [if_neg hk]) hid (by simpa using hp)
theorem SM.done {k : Int} {t : L8} {ks : List L8} {ds M : List Nd} (hf : Fine (.mk k t ks ds)) (h : SM (atM k ks (sortL ks)) ds M ds.length) : sortT (.mk k t ks ds) = .mk k t (sortL ks) M := by
  obtain ⟨h1, h2⟩ := h
  by_cases hk : k = 3
  · subst hk
    have ho : Once ks := fine_once hf rfl
    have hl : ks.length = ds.length ∧ (sortL ks).length = ks.length := by
      cases hf with
      | mk h0 h3 hf hk hdd => exact hk rfl
    rw [sortT, if_pos rfl]
    congr 1
    refine List.ext_getElem (by rw [List.length_map]; omega) fun p hp gp => ?_
    rw [List.getElem_map]
    have hpS : p < (sortL ks).length := by rw [List.length_map] at hp; exact hp
    obtain ⟨i, hi, e⟩ := List.mem_iff_getElem.1 (mem_sortL.1 (List.getElem_mem hpS))
    rw [← e, getK_at hi (by rw [sortDs_len]; omega) ho, Option.getD_some, sortDs_at ds i (by omega)]
    exact (h2 i p (by omega) (by unfold atM; rw [if_pos rfl]; exact ⟨hi, hpS, e⟩) (by omega) gp).symm
  · have hks : ks = [] := by
      cases hf with
      | mk h0 h3 hf hk' hdd =>
        unfold formB at hf
        cases ks with
        | nil => rfl
        | cons x l => simp [hk] at hf
    subst hks
    rw [sortT, if_neg hk, sortL_nil]
    congr 1
    refine List.ext_getElem (by rw [sortDs_len]; omega) fun p hp gp => ?_
    rw [sortDs_at ds p (by omega)]
    exact (h2 p p (by omega) (by unfold atM; rw [if_neg hk]) (by omega) gp).symm
end N8
end Go.Proofs.Ytgingebdoppdbaa
namespace Go.Proofs.Ytgingebdoppdbaa
namespace N8
open Nw
set_option linter.unusedVariables false
theorem fine_ds {k : Int} {t : L8} {ks : List L8} {ds : List Nd} (h : Fine (.mk k t ks ds)) : ∀ d ∈ ds, Fine d := by
  cases h with
  | mk _ _ _ _ hdd => exact hdd
theorem fine_leaf {t : L8} {ks : List L8} {ds : List Nd} (h : Fine (.mk 1 t ks ds)) : ks = [] ∧ ds = [] := by
  cases h with
  | mk h0 h3 hf hk hdd => unfold formB at hf; simp at hf; exact hf
mutual
theorem map_texts (e : L8) : ∀ (d : Nd), Fine d → textsT (mapT e d) = (textsT d).map (· ++ e) ∧ cntT (mapT e d) = cntT d
  | .mk k t ks ds, h => by
    have ih := map_textsL e ds (fine_ds h)
    rw [mapT]
    by_cases hk : k = 1
    · subst hk
      obtain ⟨rfl, rfl⟩ := fine_leaf h
      rw [if_pos rfl, textsT, textsT, if_pos rfl, if_pos rfl, textsL]
      exact ⟨rfl, by rw [cntT, cntT]⟩
    · rw [if_neg hk, textsT, textsT, if_neg hk, if_neg hk, cntT, cntT, ih.2]
      exact ⟨ih.1, rfl⟩
theorem map_textsL (e : L8) : ∀ (ds : List Nd), (∀ d ∈ ds, Fine d) → textsL (mapL e ds) = (textsL ds).map (· ++ e) ∧ cntL (mapL e ds) = cntL ds
  | [], _ => by rw [mapL, textsL]; exact ⟨rfl, rfl⟩
  | d :: ds, h => by
    have h1 := map_texts e d (h d (List.mem_cons_self ..))
    have h2 := map_textsL e ds fun x hx => h x (List.mem_cons_of_mem _ hx)
    rw [mapL, textsL, textsL, cntL, cntL, h1.1, h1.2, h2.1, h2.2, List.map_append]
    exact ⟨rfl, rfl⟩
end
theorem once_nodup {l : List L8} (h : Once l) : l.Nodup := List.pairwise_iff_getElem.2 fun i j hi hj hij => h i j hi hj hij
theorem nodup_perm {a b : List L8} (ha : a.Nodup) (hb : b.Nodup) (h : ∀ x, x ∈ a ↔ x ∈ b) : a.Perm b := by
  refine List.perm_iff_count.2 fun x => ?_
  by_cases hx : x ∈ a
  · have h1 := List.nodup_iff_count.1 ha x
    have h2 := List.nodup_iff_count.1 hb x
    have h3 := List.count_pos_iff.2 hx
    have h4 := List.count_pos_iff.2 ((h x).1 hx)
    omega
  · rw [List.count_eq_zero.2 hx, List.count_eq_zero.2 fun e => hx ((h x).2 e)]
theorem cntL_perm {a b : List Nd} (h : a.Perm b) : cntL a = cntL b := by
  induction h with
  | nil => rfl
  | cons x _ ih => rw [cntL, cntL, ih]
  | swap x y l => rw [cntL, cntL, cntL, cntL]; omega
  | trans _ _ h1 h2 => exact h1.trans h2
/-- The kids of a map in order. -/
def kidsS (ks : List L8) (ds : List Nd) : List Nd := (sortL ks).map fun x => (getK ks (sortDs ds) x).getD nul
theorem kidsS_len (ks : List L8) (ds : List Nd) : (kidsS ks ds).length = (sortL ks).length := by unfold kidsS; rw [List.length_map]
theorem kidsS_at {ks : List L8} {ds : List Nd} (ho : Once ks) (hl : ks.length = ds.length) (p : Nat) (hp : p < (sortL ks).length) (gp : p < (kidsS ks ds).length) :
    ∃ (i : Nat) (hi : i < ks.length) (hd : i < ds.length), ks[i]'hi = (sortL ks)[p]'hp ∧ (kidsS ks ds)[p]'gp = sortT (ds[i]'hd) := by
  obtain ⟨i, hi, e⟩ := List.mem_iff_getElem.1 (mem_sortL.1 (List.getElem_mem hp))
  refine ⟨i, hi, by omega, e, ?_⟩
  have e3 : (kidsS ks ds)[p]'gp = (getK ks (sortDs ds) ((sortL ks)[p]'hp)).getD nul := by simp [kidsS]
  rw [e3, ← e, getK_at hi (by rw [sortDs_len]; omega) ho, Option.getD_some, sortDs_at ds i (by omega)]
theorem kidsS_perm {ks : List L8} {ds : List Nd} (ho : Once ks) (hl : ks.length = ds.length) : (kidsS ks ds).Perm (sortDs ds) := by
  have h1 : (sortL ks).Perm ks := nodup_perm (once_nodup once_sortL) (once_nodup ho) fun x => mem_sortL
  have h2 := h1.map fun x => (getK ks (sortDs ds) x).getD nul
  have h3 : (ks.map fun x => (getK ks (sortDs ds) x).getD nul) = sortDs ds := by
    refine List.ext_getElem (by rw [List.length_map, sortDs_len]; exact hl) fun p hp gp => ?_
    rw [List.length_map] at hp
    rw [List.getElem_map, getK_at hp gp ho, Option.getD_some]
  rw [h3] at h2
  exact h2
theorem sortT_map (t : L8) (ks : List L8) (ds : List Nd) : sortT (.mk 3 t ks ds) = .mk 3 t (sortL ks) (kidsS ks ds) := by rw [sortT, if_pos rfl]; rfl
theorem fine_nokeys {k : Int} {t : L8} {ks : List L8} {ds : List Nd} (h : Fine (.mk k t ks ds)) (hk : k ≠ 3) : ks = [] := by
  cases h with
  | mk h0 h3 hf hk' hdd =>
    unfold formB at hf
    cases ks with
    | nil => rfl
    | cons x l => simp [hk] at hf
theorem fine_lens {t : L8} {ks : List L8} {ds : List Nd} (h : Fine (.mk 3 t ks ds)) : ks.length = ds.length ∧ (sortL ks).length = ks.length := by
  cases h with
  | mk h0 h3 hf hk hdd => exact hk rfl
mutual
theorem sort_facts : ∀ (d : Nd), Fine d → Fine (sortT d) ∧ cntT (sortT d) = cntT d ∧ sortT (sortT d) = sortT d
  | .mk k t ks ds, h => by
    have ih := sort_factsL ds (fine_ds h)
    by_cases hk : k = 3
    · subst hk
      have ho : Once ks := fine_once h rfl
      obtain ⟨hl, hs⟩ := fine_lens h
      have hp := kidsS_perm ho hl
      rw [sortT_map]
      refine ⟨?_, ?_, ?_⟩
      · cases h with
        | mk h0 h3 hf hk hdd =>
          refine .mk h0 h3 (by unfold formB at hf ⊢; simpa using hf) (fun _ => ⟨(kidsS_len ks ds).symm, by rw [sortL_sortL]⟩) fun d hd => ?_
          have hm := hp.mem_iff.1 hd
          obtain ⟨j, hj, rfl⟩ := List.mem_iff_getElem.1 hm
          have hj' : j < ds.length := by rw [sortDs_len] at hj; exact hj
          rw [sortDs_at ds j hj']
          exact (ih.2 j hj').1
      · rw [cntT, cntT, cntL_perm hp, ih.1]
      · rw [sortT_map, sortL_sortL]
        congr 1
        refine List.ext_getElem (by rw [kidsS_len, kidsS_len, sortL_sortL]) fun p hp1 hp2 => ?_
        have hpS : p < (sortL ks).length := by rw [kidsS_len] at hp2; exact hp2
        obtain ⟨i, hi, hd, e1, e2⟩ := kidsS_at ho hl p hpS hp2
        obtain ⟨i', hi', hd', e1', e2'⟩ := kidsS_at (ks := sortL ks) (ds := kidsS ks ds) once_sortL (kidsS_len ks ds).symm p (by rw [sortL_sortL]; exact hpS) hp1
        have hii : i' = p := once_inj (l := sortL ks) once_sortL hi' hpS (by rw [e1']; simp only [sortL_sortL])
        subst hii
        rw [e2', e2, (ih.2 i hd).2]
    · have hks := fine_nokeys h hk
      subst hks
      have hT : sortT (.mk k t [] ds) = .mk k t [] (sortDs ds) := by rw [sortT, if_neg hk]
      rw [hT]
      refine ⟨?_, ?_, ?_⟩
      · cases h with
        | mk h0 h3 hf hk' hdd =>
          refine .mk h0 h3 (by rw [sortDs_len]; exact hf) (fun e => absurd e hk) fun d hd => ?_
          obtain ⟨j, hj, rfl⟩ := List.mem_iff_getElem.1 hd
          have hj' : j < ds.length := by rw [sortDs_len] at hj; exact hj
          rw [sortDs_at ds j hj']
          exact (ih.2 j hj').1
      · rw [cntT, cntT, ih.1]
      · rw [sortT, if_neg hk]
        congr 1
        refine List.ext_getElem (by rw [sortDs_len]) fun p hp1 hp2 => ?_
        have hpd : p < ds.length := by rw [sortDs_len] at hp2; exact hp2
        rw [sortDs_at _ p hp2, sortDs_at ds p hpd, (ih.2 p hpd).2]
theorem sort_factsL : ∀ (ds : List Nd), (∀ d ∈ ds, Fine d) → cntL (sortDs ds) = cntL ds ∧ ∀ (j : Nat) (h : j < ds.length), Fine (sortT (ds[j]'h)) ∧ sortT (sortT (ds[j]'h)) = sortT (ds[j]'h)
  | [], _ => ⟨rfl, fun j h => absurd h (Nat.not_lt_zero _)⟩
  | d :: ds, h => by
    have h1 := sort_facts d (h d (List.mem_cons_self ..))
    have h2 := sort_factsL ds fun x hx => h x (List.mem_cons_of_mem _ hx)
    refine ⟨by rw [sortDs, cntL, cntL, h1.2.1, h2.1], fun j hj => ?_⟩
    cases j with
    | zero => exact ⟨h1.1, h1.2.2⟩
    | succ j => exact h2.2 j (Nat.lt_of_succ_lt_succ hj)
end
theorem sort_kind (d : Nd) : (sortT d).kind = d.kind := by
  cases d with
  | mk k t ks ds =>
    rw [sortT]
    split <;> rfl
theorem hop_sort {d : Nd} (h : Fine d) (x : L8) : hopT (sortT d) x = (hopT d x).map sortT := by
  cases d with
  | mk k t ks ds =>
    unfold hopT
    rw [sort_kind]
    by_cases h2 : k = 2
    · subst h2
      have hks := fine_nokeys h (by decide)
      subst hks
      rw [if_pos (show (Nd.mk 2 t [] ds).kind = 2 from rfl), if_pos (show (Nd.mk 2 t [] ds).kind = 2 from rfl)]
      have hT : sortT (.mk 2 t [] ds) = .mk 2 t [] (sortDs ds) := by rw [sortT, if_neg (by decide)]
      rw [hT]
      show (if countE x 100000 = 0 ∧ countN x 100000 < ((sortDs ds).length : Int) then (sortDs ds)[(countN x 100000).toNat]? else none) = Option.map sortT (if countE x 100000 = 0 ∧ countN x 100000 < (ds.length : Int) then ds[(countN x 100000).toNat]? else none)
      rw [sortDs_len]
      split
      · rcases Nat.lt_or_ge (countN x 100000).toNat ds.length with hlt | hge
        · rw [List.getElem?_eq_getElem hlt, List.getElem?_eq_getElem (by rw [sortDs_len]; exact hlt), sortDs_at ds _ hlt]; rfl
        · rw [List.getElem?_eq_none hge, List.getElem?_eq_none (by rw [sortDs_len]; exact hge)]; rfl
      · rfl
    · rw [if_neg (show ¬ (Nd.mk k t ks ds).kind = 2 from h2), if_neg (show ¬ (Nd.mk k t ks ds).kind = 2 from h2)]
      unfold getT
      rw [sort_kind]
      by_cases h3 : k = 3
      · subst h3
        rw [if_pos (show (Nd.mk 3 t ks ds).kind = 3 from rfl), if_pos (show (Nd.mk 3 t ks ds).kind = 3 from rfl), sortT_map]
        show getK (sortL ks) (kidsS ks ds) x = (getK ks ds x).map sortT
        have ho : Once ks := fine_once h rfl
        obtain ⟨hl, hs⟩ := fine_lens h
        by_cases hx : x ∈ sortL ks
        · obtain ⟨p, hp, rfl⟩ := List.mem_iff_getElem.1 hx
          have gp : p < (kidsS ks ds).length := by rw [kidsS_len]; exact hp
          obtain ⟨i, hi, hd, e1, e2⟩ := kidsS_at ho hl p hp gp
          rw [getK_at hp gp once_sortL, e2, ← e1, getK_at hi hd ho]; rfl
        · rw [getK_miss fun i hi e => hx (by rw [← e]; exact List.getElem_mem hi), getK_miss fun i hi e => hx (mem_sortL.2 (by rw [← e]; exact List.getElem_mem hi))]; rfl
      · rw [if_neg (show ¬ (Nd.mk k t ks ds).kind = 3 from h3), if_neg (show ¬ (Nd.mk k t ks ds).kind = 3 from h3)]; rfl
theorem at_sort : ∀ (l : List L8) (d : Nd), Fine d → atT (sortT d) l = (atT d l).map sortT
  | [], d, _ => by rw [atT, atT]; rfl
  | x :: l, d, h => by
    rw [atT, atT, hop_sort h]
    cases hh : hopT d x with
    | none => rfl
    | some e => exact at_sort l e (fine_kid h (step_mem hh))
theorem sort_nul : sortT nul = nul := by unfold nul; rw [sortT, if_neg (by decide)]; rfl
end N8
end Go.Proofs.Ytgingebdoppdbaa
