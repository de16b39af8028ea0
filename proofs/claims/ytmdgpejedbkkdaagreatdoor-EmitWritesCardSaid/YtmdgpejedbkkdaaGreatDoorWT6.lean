/- FloSize -/
import Derived.Test.YtmdgpejedbkkdaaGreatDoorWT5
set_option linter.unusedVariables false
set_option linter.unusedSimpArgs false
set_option maxRecDepth 100000
set_option maxHeartbeats 16000000
namespace Go.Proofs.YtmdgpejedbkkdaaGreatDoor
namespace F9
open Nw N8 Q6
theorem esc_len (c : UInt8) : (esc c).length ≤ 4 := by
 unfold esc
 repeat' split
 all_goals simp
theorem escL_len : ∀ l : L8, (escL l).length ≤ 4 * l.length
 | [] => Nat.le_refl _
 | c :: l => by
  rw [escL_cons, List.length_append, List.length_cons]
  have := esc_len c
  have := escL_len l
  omega
theorem dbl_len (t : L8) : (dblL t).length ≤ 4 * t.length + 2 := by
 unfold dblL
 have := escL_len t
 simp only [List.length_append, List.length_cons, List.length_nil]
 omega
theorem wtx_len (t : L8) : (wtx t).length ≤ 4 * t.length + 2 := by
 unfold wtx
 have := dbl_len t
 split <;> omega
theorem scD_facts : ∀ (N : Nat) (l : L8), l.length ≤ N → ∀ t n, scD l = some (t, n) → t.length + 1 ≤ n ∧ n ≤ l.length
 | _, [], _, t, n, h => by rw [scD_nil] at h; cases h
 | 0, c :: l, h, _, _, _ => by cases h
 | N + 1, c :: l, hN, t, n, h => by
  rw [List.length_cons] at hN
  by_cases hc : c = 34
  ·subst hc
   rw [scD_end] at h
   injection h with h
   injection h with h1 h2
   subst h1; subst h2
   exact ⟨Nat.le_refl _, by rw [List.length_cons]; omega⟩
  ·by_cases hd : (den (c :: l)).2 = 0
   ·rw [scD_bad hc hd] at h; cases h
   ·obtain ⟨v, m, hvm⟩ : ∃ v m, den (c :: l) = (v, m) := ⟨_, _, rfl⟩
    rw [hvm] at hd
    have hm : m ≠ 0 := hd
    have hml := den_len (c :: l)
    rw [hvm] at hml
    have hml : m ≤ l.length + 1 := hml
    rw [scD_next hc hvm hm] at h
    cases hs : scD ((c :: l).drop m) with
    | none => rw [hs] at h; cases h
    | some p =>
     obtain ⟨t1, n1⟩ := p
     rw [hs] at h
     have hdl : ((c :: l).drop m).length = l.length + 1 - m := by rw [List.length_drop, List.length_cons]
     obtain ⟨g1, g2⟩ := scD_facts N _ (by omega) t1 n1 hs
     have h9 : some (v :: t1, m + n1) = some (t, n) := h
     injection h9 with h9
     injection h9 with h1 h2
     subst h1; subst h2
     rw [List.length_cons, List.length_cons]
     omega
theorem scS_facts : ∀ (N : Nat) (l : L8), l.length ≤ N → ∀ t n, scS l = some (t, n) → t.length + 1 ≤ n ∧ n ≤ l.length
 | _, [], _, t, n, h => by rw [scS] at h; cases h
 | _, [c], _, t, n, h => by
  rw [scS] at h
  split at h
  ·injection h with h
   injection h with h1 h2
   subst h1; subst h2
   exact ⟨Nat.le_refl _, Nat.le_refl _⟩
  ·cases h
 | 0, c :: d :: l, h, _, _, _ => by cases h
 | N + 1, c :: d :: l, hN, t, n, h => by
  rw [List.length_cons, List.length_cons] at hN
  rw [scS] at h
  have key : ∀ (x : L8) (k : Nat) (l' : L8), (scS l').map (push x k) = some (t, n) → x.length = 1 → 1 ≤ k → l'.length ≤ N → k + l'.length ≤ l.length + 2 → t.length + 1 ≤ n ∧ n ≤ l.length + 2 := by
   intro x k l' h hx hk hN' hle
   cases hs : scS l' with
   | none => rw [hs] at h; cases h
   | some p =>
    obtain ⟨t1, n1⟩ := p
    rw [hs] at h
    obtain ⟨g1, g2⟩ := scS_facts N l' hN' t1 n1 hs
    have h9 : some (x ++ t1, k + n1) = some (t, n) := h
    injection h9 with h9
    injection h9 with h1 h2
    subst h1; subst h2
    rw [List.length_append]
    omega
  rw [List.length_cons, List.length_cons]
  split at h
  ·split at h
   ·split at h
    ·exact key _ _ _ h rfl (by omega) (by omega) (by omega)
    ·injection h with h
     injection h with h1 h2
     subst h1; subst h2
     exact ⟨Nat.le_refl _, by omega⟩
   ·exact key _ _ _ h rfl (by omega) (by rw [List.length_cons]; omega) (by rw [List.length_cons]; omega)
  ·cases h
theorem scn_facts {l t : L8} {n : Nat} (h : scnP l = some (t, n)) (hl : l ≠ []) : t.length + 2 ≤ n ∧ n ≤ l.length := by
 have hp : 0 < l.length := List.length_pos_iff.2 hl
 have hdl : (l.drop 1).length = l.length - 1 := by rw [List.length_drop]
 have key : ∀ o : Option (L8 × Nat), (∀ t n, o = some (t, n) → t.length + 1 ≤ n ∧ n ≤ (l.drop 1).length) → o.map (push [] 1) = some (t, n) → t.length + 2 ≤ n ∧ n ≤ l.length := by
  intro o ho h
  cases o with
  | none => cases h
  | some p =>
   obtain ⟨t1, n1⟩ := p
   obtain ⟨g1, g2⟩ := ho t1 n1 rfl
   have h9 : some ([] ++ t1, 1 + n1) = some (t, n) := h
   injection h9 with h9
   injection h9 with h1 h2
   subst h1; subst h2
   rw [List.nil_append]
   omega
 unfold scnP scanR at h
 split at h
 ·exact key _ (fun t n h => scD_facts _ _ (Nat.le_refl _) t n h) h
 ·exact key _ (fun t n h => scS_facts _ _ (Nat.le_refl _) t n h) h
theorem trm_le (l : L8) : (trm l).length ≤ l.length := by
 unfold trm Lib.trimRightB
 rw [List.length_reverse]
 have := (List.dropWhile_sublist (p := (· == (32 : UInt8))) (l := l.reverse)).length_le
 rw [List.length_reverse] at this
 exact this
theorem key_facts {l x : L8} {j : Nat} (h : keyP l = some (x, j)) : (wtx x).length + 4 ≤ 4 * j ∧ 1 ≤ j ∧ j ≤ l.length := by
 have hne : l ≠ [] := by
  rintro rfl
  unfold keyP at h
  rw [show isQ (([] : L8).headD 0) = false from rfl, if_neg Bool.false_ne_true] at h
  split at h
  ·rename_i h9
   rw [Bool.and_eq_true] at h9
   exact absurd h9.2 (by decide)
  ·cases h
 unfold keyP at h
 split at h
 ·cases hs : scnP l with
  | none => rw [hs] at h; cases h
  | some p =>
   obtain ⟨t, n⟩ := p
   rw [hs] at h
   obtain ⟨g1, g2⟩ := scn_facts hs hne
   have h9 : (if (l.drop (n + blk (l.drop n))).headD 0 = 58 then some (t, n + blk (l.drop n) + 1) else none) = some (x, j) := h
   split at h9
   ·rename_i h5
    injection h9 with h9
    injection h9 with h1 h2
    subst h1; subst h2
    have := wtx_len t
    have hlt : n + blk (l.drop n) < l.length := by
     rcases Nat.lt_or_ge (n + blk (l.drop n)) l.length with h | h
     ·exact h
     ·rw [List.drop_of_length_le h] at h5; exact absurd h5 (by decide)
    omega
   ·cases h9
 ·split at h
  ·rename_i h5
   rw [Bool.and_eq_true] at h5
   injection h with h
   injection h with h1 h2
   subst h2
   have h6 := of_decide_eq_true h5.2
   have hlt : pln l < l.length := by
    rcases Nat.lt_or_ge (pln l) l.length with h | h
    ·exact h
    ·rw [List.drop_of_length_le h] at h6; exact absurd h6 (by decide)
   have hw : wtx (trm (l.take (pln l))) = trm (l.take (pln l)) := by unfold wtx; rw [if_pos h5.1]
   have := trm_le (l.take (pln l))
   rw [List.length_take] at this
   rw [← h1, hw]
   omega
  ·cases h
theorem sort_once {l : List L8} (h : Once l) : (sortL l).length = l.length := by
 have hn : l.Nodup := List.pairwise_iff_getElem.2 fun i j hi hj hij => h i j hi hj hij
 have hs : (sortL l).Nodup := (sortL_asc l).imp fun {a b} hab e => by subst e; exact lt_irr _ hab
 have hp : (sortL l).Perm l := by
  refine List.perm_iff_count.2 fun x => ?_
  by_cases hx : x ∈ l
  ·have h1 := List.nodup_iff_count.1 hs x
   have h2 := List.nodup_iff_count.1 hn x
   have h3 := List.count_pos_iff.2 hx
   have h4 := List.count_pos_iff.2 (mem_sortL.2 hx)
   omega
  ·rw [List.count_eq_zero.2 hx, List.count_eq_zero.2 fun e => hx (mem_sortL.1 e)]
 exact hp.length_eq
theorem once_snoc {l : List L8} {x : L8} (h : Once l) (hx : x ∉ l) : Once (l ++ [x]) := by
 intro i j hi hj hij
 rw [List.length_append, List.length_singleton] at hi hj
 rw [List.getElem_append_left (by omega : i < l.length)]
 by_cases hjl : j < l.length
 ·rw [List.getElem_append_left hjl]
  exact h i j (by omega) hjl hij
 ·have e : (l ++ [x])[j]'(by rw [List.length_append, List.length_singleton]; exact hj) = x := by
   rw [List.getElem_append_right (by omega)]
   simp
  rw [e]
  exact fun e2 => hx (by rw [← e2]; exact List.getElem_mem _)
def Got (d : Nd) (m : Nat) : Prop := Fine d ∧ cntT d ≤ m + 1 ∧ (wrT d).length ≤ 4 + 6 * m
theorem got_txt {t : L8} {m : Nat} (h : (wtx t).length ≤ 4 + 6 * m) : Got (txt t) m := by
 refine ⟨.mk (by decide) (by decide) (by simp [formB]) (fun h => by cases h) (fun d h => by cases h), by unfold txt; rw [cntT, cntL]; omega, ?_⟩
 unfold txt
 rw [wrT, if_neg (by decide), if_pos rfl]
 exact h
theorem got_nul (m : Nat) : Got nul m := by
 refine ⟨.mk (by decide) (by decide) (by simp [formB]) (fun h => by cases h) (fun d h => by cases h), by unfold nul; rw [cntT, cntL]; omega, ?_⟩
 unfold nul
 rw [wrT, if_pos rfl]
 show 4 ≤ 4 + 6 * m
 omega
def wl : List Nd → Nat
 | [] => 0
 | d :: ds => (wrT d).length + 2 + wl ds
def wlM : List L8 → List Nd → Nat
 | k :: ks, d :: ds => (wtx k).length + (wrT d).length + 4 + wlM ks ds
 | _, _ => 0
theorem wrSt_len : ∀ ds, (wrSt ds).length = wl ds
 | [] => rfl
 | d :: ds => by
  rw [wrSt, wl, List.length_append, List.length_cons, List.length_cons, wrSt_len ds]
theorem wrS_len (ds : List Nd) : (wrS ds).length ≤ wl ds := by
 cases ds with
 | nil => exact Nat.le_refl _
 | cons d ds => rw [wrS, wl, List.length_append, wrSt_len]; omega
theorem wrMt_len : ∀ (ks : List L8) (ds : List Nd), (wrMt ks ds).length = wlM ks ds
 | k :: ks, d :: ds => by
  rw [wrMt, wlM]
  simp only [List.length_append, List.length_cons]
  rw [wrMt_len ks ds]; omega
 | [], _ => by rw [show wrMt [] _ = [] by rw [wrMt]; intros; contradiction, show wlM [] _ = 0 by rw [wlM]; intros; contradiction]; rfl
 | _ :: _, [] => by rw [show wrMt (_ :: _) [] = [] by rw [wrMt]; intros; contradiction, show wlM (_ :: _) [] = 0 by rw [wlM]; intros; contradiction]; rfl
theorem wrM_len (ks : List L8) (ds : List Nd) : (wrM ks ds).length ≤ wlM ks ds := by
 match ks, ds with
 | k :: ks, d :: ds =>
  rw [wrM, wlM]
  simp only [List.length_append, List.length_cons]
  rw [wrMt_len]; omega
 | [], _ => rw [show wrM [] _ = [] by rw [wrM]; intros; contradiction]; exact Nat.zero_le _
 | _ :: _, [] => rw [show wrM (_ :: _) [] = [] by rw [wrM]; intros; contradiction]; exact Nat.zero_le _
def GotS (acc : List Nd) (e : Nd) (m : Nat) : Prop := ∃ ds, e = .mk 2 [] [] (acc ++ ds) ∧ (∀ d ∈ ds, Fine d) ∧ cntL ds ≤ m ∧ wl ds ≤ 6 * m
def GotM (ak : List L8) (ad : List Nd) (e : Nd) (m : Nat) : Prop := ∃ ks ds, e = .mk 3 [] (ak ++ ks) (ad ++ ds) ∧ ks.length = ds.length ∧ (Once ak → Once (ak ++ ks)) ∧ (∀ d ∈ ds, Fine d) ∧ cntL ds ≤ m ∧ wlM ks ds ≤ 6 * m
theorem got_seq {e : Nd} {m : Nat} (h : GotS [] e m) : Got e (1 + m) := by
 obtain ⟨ds, rfl, h1, h2, h3⟩ := h
 rw [List.nil_append]
 refine ⟨.mk (by decide) (by decide) (by simp [formB]) (fun h => by cases h) h1, by rw [cntT]; omega, ?_⟩
 rw [wrT, if_neg (by decide), if_neg (by decide), if_neg (by decide)]
 have := wrS_len ds
 simp only [List.length_append, List.length_cons, List.length_nil]
 omega
theorem once_nil : Once [] := fun i j hi => absurd hi (Nat.not_lt_zero _)
theorem got_map {e : Nd} {m : Nat} (h : GotM [] [] e m) : Got e (1 + m) := by
 obtain ⟨ks, ds, rfl, h0, ho, h1, h2, h3⟩ := h
 have ho := ho once_nil
 rw [List.nil_append] at ho ⊢
 rw [List.nil_append]
 refine ⟨.mk (by decide) (by decide) (by simp [formB]) (fun _ => ⟨h0, sort_once ho⟩) h1, by rw [cntT]; omega, ?_⟩
 rw [wrT, if_neg (by decide), if_neg (by decide), if_pos rfl]
 have := wrM_len ks ds
 simp only [List.length_append, List.length_cons, List.length_nil]
 omega
theorem scl_got {l : L8} {d : Nd} {m : Nat} (h : sclP (trm (l.take m)) = some d) : Got d m := by
 unfold sclP at h
 split at h
 ·injection h with h
  subst h
  exact got_nul m
 ·split at h
  ·rename_i h2
   injection h with h
   subst h
   refine got_txt ?_
   have hw : wtx (trm (l.take m)) = trm (l.take m) := by unfold wtx; rw [if_pos h2]
   rw [hw]
   have := trm_le (l.take m)
   rw [List.length_take] at this
   omega
  ·cases h
theorem bump_some {o : Option (Nd × Nat)} {k : Nat} {d : Nd} {m : Nat} (h : o.map (bump k) = some (d, m)) : ∃ n, o = some (d, n) ∧ m = k + n := by
 cases o with
 | none => cases h
 | some p =>
  obtain ⟨e, n⟩ := p
  have h9 : some (e, k + n) = some (d, m) := h
  injection h9 with h9
  injection h9 with h1 h2
  subst h1
  exact ⟨n, rfl, h2.symm⟩
theorem val_facts : ∀ (N : Nat),
  (∀ (l : L8) (d : Nd) (m : Nat), 2 * l.length ≤ N → valP l = some (d, m) → m ≤ l.length ∧ Got d m) ∧
  (∀ (l : L8) (acc : List Nd) (e : Nd) (m : Nat), 2 * l.length + 1 ≤ N → rowP l acc = some (e, m) → m ≤ l.length ∧ GotS acc e m) ∧
  (∀ (l : L8) (ak : List L8) (ad : List Nd) (e : Nd) (m : Nat), 2 * l.length + 1 ≤ N → prsP l ak ad = some (e, m) → m ≤ l.length ∧ GotM ak ad e m) := by
 intro N
 induction N with
 | zero =>
  refine ⟨fun l d m hl h => ?_, fun l acc e m hl h => by omega, fun l ak ad e m hl h => by omega⟩
  obtain rfl : l = [] := List.length_eq_zero_iff.1 (by omega)
  rw [valP] at h
  injection h with h
  injection h with h1 h2
  subst h1; subst h2
  exact ⟨Nat.le_refl _, got_nul 0⟩
 | succ N ih =>
  obtain ⟨ihV, ihR, ihP⟩ := ih
  refine ⟨fun l d m hl h => ?_, fun l acc e m hl h => ?_, fun l ak ad e m hl h => ?_⟩
  ·match l with
   | [] =>
    rw [valP] at h
    injection h with h
    injection h with h1 h2
    subst h1; subst h2
    exact ⟨Nat.le_refl _, got_nul 0⟩
   | c :: t =>
    rw [List.length_cons] at hl ⊢
    have hbt := blk_le t
    rw [valP] at h
    split at h
    ·split at h
     ·rename_i h5
      injection h with h
      injection h with h1 h2
      subst h1; subst h2
      have hlt : blk t < t.length := by
       rcases Nat.lt_or_ge (blk t) t.length with h | h
       ·exact h
       ·rw [List.drop_of_length_le h] at h5; exact absurd h5 (by decide)
      have hg : Got (.mk 2 [] [] []) (1 + (blk t + 1)) := got_seq ⟨[], rfl, fun d h => (by cases h), Nat.zero_le _, Nat.zero_le _⟩
      exact ⟨by omega, by rw [show blk t + 2 = 1 + (blk t + 1) by omega]; exact hg⟩
     ·obtain ⟨n, h1, rfl⟩ := bump_some h
      obtain ⟨g1, g2⟩ := ihR t [] d n (by omega) h1
      exact ⟨by omega, got_seq g2⟩
    ·split at h
     ·split at h
      ·rename_i h5
       injection h with h
       injection h with h1 h2
       subst h1; subst h2
       have hlt : blk t < t.length := by
        rcases Nat.lt_or_ge (blk t) t.length with h | h
        ·exact h
        ·rw [List.drop_of_length_le h] at h5; exact absurd h5 (by decide)
       have hg : Got (.mk 3 [] [] []) (1 + (blk t + 1)) := got_map ⟨[], [], rfl, rfl, fun _ => once_nil, fun d h => (by cases h), Nat.zero_le _, by rw [show wlM [] [] = 0 by rw [wlM]; intros; contradiction]; exact Nat.zero_le _⟩
       exact ⟨by omega, by rw [show blk t + 2 = 1 + (blk t + 1) by omega]; exact hg⟩
      ·obtain ⟨n, h1, rfl⟩ := bump_some h
       obtain ⟨g1, g2⟩ := ihP t [] [] d n (by omega) h1
       exact ⟨by omega, got_map g2⟩
     ·split at h
      ·cases hs : scnP (c :: t) with
       | none => rw [hs] at h; cases h
       | some p =>
        obtain ⟨x, n⟩ := p
        rw [hs] at h
        have h9 : some (txt x, n) = some (d, m) := h
        injection h9 with h9
        injection h9 with h1 h2
        subst h1; subst h2
        obtain ⟨g1, g2⟩ := scn_facts hs (fun e => by cases e)
        rw [List.length_cons] at g2
        have := wtx_len x
        exact ⟨g2, got_txt (by omega)⟩
      ·cases hs : sclP (trm ((c :: t).take (pln (c :: t)))) with
       | none => rw [hs] at h; cases h
       | some e =>
        rw [hs] at h
        have h9 : some (e, pln (c :: t)) = some (d, m) := h
        injection h9 with h9
        injection h9 with h1 h2
        subst h1; subst h2
        have := pln_le (c :: t)
        rw [List.length_cons] at this
        exact ⟨this, scl_got hs⟩
  ·rw [rowP] at h
   have hbl := blk_le l
   cases hv : valP (l.drop (blk l)) with
   | none => rw [hv] at h; cases h
   | some p =>
    obtain ⟨v, m1⟩ := p
    rw [hv] at h
    obtain ⟨g1, g2, g3, g4⟩ := ihV _ v m1 (by rw [List.length_drop]; omega) hv
    rw [List.length_drop] at g1
    have hb2 := blk_le (l.drop (blk l + m1))
    rw [List.length_drop] at hb2
    have h : (if m1 = 0 then none else match _h : l.drop (blk l + m1 + blk (l.drop (blk l + m1))) with
     | [] => none
     | c :: t => if c = 93 then some (.mk 2 [] [] (acc ++ [v]), blk l + m1 + blk (l.drop (blk l + m1)) + 1) else if c = 44 then (rowP t (acc ++ [v])).map (bump (blk l + m1 + blk (l.drop (blk l + m1)) + 1)) else none) = some (e, m) := h
    split at h
    ·cases h
    ·split at h
     ·cases h
     ·rename_i c t h9
      have hlen : t.length + 1 = l.length - (blk l + m1 + blk (l.drop (blk l + m1))) := by
       have : (l.drop (blk l + m1 + blk (l.drop (blk l + m1)))).length = t.length + 1 := by rw [h9]; rfl
       rw [List.length_drop] at this
       omega
      have hone : GotS acc (.mk 2 [] [] (acc ++ [v])) (blk l + m1 + blk (l.drop (blk l + m1)) + 1) := ⟨[v], rfl, fun d hd => (by rw [List.mem_singleton] at hd; subst hd; exact g2), (by rw [cntL, cntL]; omega), (by rw [wl, wl]; omega)⟩
      split at h
      ·injection h with h
       injection h with h1 h2
       subst h1; subst h2
       exact ⟨by omega, hone⟩
      ·split at h
       ·obtain ⟨n, h1, rfl⟩ := bump_some h
        obtain ⟨k1, ds, rfl, k2, k3, k4⟩ := ihR t (acc ++ [v]) e n (by omega) h1
        refine ⟨by omega, v :: ds, by simp, fun d hd => ?_, by rw [cntL]; omega, by rw [wl]; omega⟩
        rcases List.mem_cons.1 hd with rfl | hd
        ·exact g2
        ·exact k2 d hd
       ·cases h
  ·rw [prsP] at h
   have hbl := blk_le l
   split at h
   ·cases h
   ·rename_i x j hk
    obtain ⟨q1, q2, q3⟩ := key_facts hk
    rw [List.length_drop] at q3
    split at h
    ·cases h
    ·rename_i hx
     have hb1 := blk_le (l.drop (blk l + j))
     rw [List.length_drop] at hb1
     obtain ⟨a, ha⟩ : ∃ a, blk l + j + blk (l.drop (blk l + j)) = a := ⟨_, rfl⟩
     rw [ha] at h
     cases hv : valP (l.drop a) with
     | none => rw [hv] at h; cases h
     | some p =>
      obtain ⟨v, m1⟩ := p
      rw [hv] at h
      obtain ⟨g1, g2, g3, g4⟩ := ihV _ v m1 (by rw [List.length_drop]; omega) hv
      rw [List.length_drop] at g1
      have hb2 := blk_le (l.drop (a + m1))
      rw [List.length_drop] at hb2
      have h : (match _h : l.drop (a + m1 + blk (l.drop (a + m1))) with
       | [] => none
       | c :: t => if c = 125 then some (.mk 3 [] (ak ++ [x]) (ad ++ [v]), a + m1 + blk (l.drop (a + m1)) + 1) else if c = 44 then (prsP t (ak ++ [x]) (ad ++ [v])).map (bump (a + m1 + blk (l.drop (a + m1)) + 1)) else none) = some (e, m) := h
      split at h
      ·cases h
      ·rename_i c t h9
       have hlen : t.length + 1 = l.length - (a + m1 + blk (l.drop (a + m1))) := by
        have : (l.drop (a + m1 + blk (l.drop (a + m1)))).length = t.length + 1 := by rw [h9]; rfl
        rw [List.length_drop] at this
        omega
       split at h
       ·injection h with h
        injection h with h1 h2
        subst h1; subst h2
        refine ⟨by omega, [x], [v], rfl, rfl, fun ho => once_snoc ho hx, fun d hd => (by rw [List.mem_singleton] at hd; subst hd; exact g2), by rw [cntL, cntL]; omega, ?_⟩
        rw [wlM, show wlM [] [] = 0 by rw [wlM]; intros; contradiction]
        omega
       ·split at h
        ·obtain ⟨n, h1, rfl⟩ := bump_some h
         obtain ⟨k1, ks, ds, rfl, k0, ko, k2, k3, k4⟩ := ihP t (ak ++ [x]) (ad ++ [v]) e n (by omega) h1
         refine ⟨by omega, x :: ks, v :: ds, by simp, by rw [List.length_cons, List.length_cons, k0], fun ho => ?_, fun d hd => ?_, by rw [cntL]; omega, by rw [wlM]; omega⟩
         ·have := ko (once_snoc ho hx)
          rwa [List.append_assoc] at this
         ·rcases List.mem_cons.1 hd with rfl | hd
          ·exact g2
          ·exact k2 d hd
        ·cases h
theorem val_got {l : L8} {d : Nd} {m : Nat} (h : valP l = some (d, m)) : m ≤ l.length ∧ Got d m := (val_facts _).1 l d m (Nat.le_refl _) h
theorem par_got {l : L8} {d : Nd} (h : parP l = some d) : Fine d ∧ cntT d ≤ l.length + 1 ∧ (wrT d).length ≤ 4 + 6 * l.length := by
 unfold parP at h
 cases hv : valP (l.drop (blk l)) with
 | none => rw [hv] at h; cases h
 | some p =>
  obtain ⟨v, m⟩ := p
  rw [hv] at h
  obtain ⟨g1, g2, g3, g4⟩ := val_got hv
  rw [List.length_drop] at g1
  have h9 : (if (l.drop (blk l + m)).length = blk (l.drop (blk l + m)) then some v else none) = some d := h
  split at h9
  ·injection h9 with h9
   subst h9
   exact ⟨g2, by omega, by omega⟩
  ·cases h9
end F9
end Go.Proofs.YtmdgpejedbkkdaaGreatDoor
