/- EmiBack, EmiFile, EmiRef, EmiSize -/
import Derived.Test.YtmdgpejedbkkdaaGreatDoorBT6
import Derived.Test.YtmdgpejedbkkdaaGreatDoorBT7
import Derived.Test.YtmdgpejedbkkdaaGreatDoorBT8
set_option linter.unusedVariables false
set_option linter.unusedSimpArgs false
set_option maxRecDepth 100000
set_option maxHeartbeats 16000000
namespace Go.Proofs.YtmdgpejedbkkdaaGreatDoor
namespace E11
open Nw N8 Q6 F9 B10
theorem key_head (k u : L8) : (keyw k ++ 58 :: u).headD 0 ≠ 32 ∧ keyw k ++ 58 :: u ≠ [] := by
 refine ⟨?_, by simp⟩
 unfold keyw
 by_cases h : k = [60, 60]
 ·rw [if_pos h, dbl_head]; decide
 ·rw [if_neg h]
  obtain ⟨_, _, _, _, h1, _, h2⟩ := scw_line k
  cases hs : scw k with
  | nil => exact absurd hs h2
  | cons c l => rw [hs] at h1; exact h1
theorem rws_first : ∀ (N : Nat) (d : Nd) (p : Nat), cntT d ≤ N → Fine d → shrt d = false → ∃ t tl, rws d p = (p, t) :: tl ∧ t.headD 0 ≠ 32 ∧ t ≠ []
 | 0, .mk k t ks ds, p, h, _, _ => by rw [cntT] at h; omega
 | N + 1, .mk k t ks ds, p, h, hf, hs => by
  have hff := hf
  obtain ⟨⟨h0, h3⟩, ht, hk, hd, hfd⟩ := fine_in hf
  unfold shrt at hs
  rw [Bool.or_eq_false_iff] at hs
  have h2 : ¬ k < 2 := of_decide_eq_false hs.1
  have hne : ds ≠ [] := of_decide_eq_false hs.2
  rw [cntT] at h
  cases ds with
  | nil => exact absurd rfl hne
  | cons e es =>
   rw [cntL] at h
   by_cases e2 : k = 2
   ·rw [rws, if_pos e2, rwS]
    by_cases he : shrt e = true
    ·rw [if_pos he]; exact ⟨_, _, rfl, show (45 : UInt8) ≠ 32 by decide, by simp⟩
    ·rw [if_neg he]
     obtain ⟨t1, tl, h1, _, _⟩ := rws_first N e (p + 2) (by omega) (hfd e (List.mem_cons_self ..)) (by simpa using he)
     rw [h1]; exact ⟨_, _, rfl, show (45 : UInt8) ≠ 32 by decide, by simp⟩
   ·rw [rws, if_neg e2]
    have e3 : k = 3 := by omega
    have hlen : ks.length = (e :: es).length := by
     cases hff with
     | mk a b c dd ee => exact (dd e3).1
    cases ks with
    | nil => cases hlen
    | cons x xs =>
     rw [rwM]
     by_cases he : shrt e = true
     ·rw [if_pos he]; exact ⟨_, _, rfl, (key_head _ _).1, (key_head _ _).2⟩
     ·rw [if_neg he]; exact ⟨_, _, rfl, (key_head _ _).1, (key_head _ _).2⟩
def low (R : List Ln) (p : Nat) : Prop := ∀ y t, R = y :: t → y.ind < p
theorem low_app {M R : List Ln} {p q : Nat} (hM : ∀ y t, M = y :: t → y.ind < p) (hR : low R q) (h : q ≤ p) : low (M ++ R) p := by
 intro y t e
 cases M with
 | nil => exact Nat.lt_of_lt_of_le (hR y t e) h
 | cons z M => injection e with e1 e2; subst e1; exact hM z M rfl
theorem rwS_ind (ds : List Nd) (p : Nat) (hf : ∀ d ∈ ds, Fine d) {L : List Ln} (h : L.map pr = rwS ds p) : ∀ y t, L = y :: t → y.ind < p + 2 := by
 rintro y t rfl
 cases ds with
 | nil => rw [rwS] at h; cases h
 | cons d ds =>
  rw [rwS] at h
  by_cases he : shrt d = true
  ·rw [if_pos he] at h; injection h with h1 h2; injection h1 with h3 h4; omega
  ·rw [if_neg he] at h
   obtain ⟨t1, tl, h1, _, _⟩ := rws_first _ d (p + 2) (Nat.le_refl _) (hf d (List.mem_cons_self ..)) (by simpa using he)
   rw [h1] at h; injection h with h1 h2; injection h1 with h3 h4; omega
theorem rwM_ind (ks : List L8) (ds : List Nd) (p : Nat) {L : List Ln} (h : L.map pr = rwM ks ds p) : ∀ y t, L = y :: t → y.ind < p + 2 := by
 rintro y t rfl
 cases ks with
 | nil => rw [rwM] at h; cases h; intros; contradiction
 | cons k ks =>
  cases ds with
  | nil => rw [rwM] at h; cases h; intros; contradiction
  | cons d ds =>
   rw [rwM] at h
   by_cases he : shrt d = true
   ·rw [if_pos he] at h; injection h with h1 h2; injection h1 with h3 h4; omega
   ·rw [if_neg he] at h; injection h with h1 h2; injection h1 with h3 h4; omega
theorem map_cut {L : List Ln} {a b : List (Nat × L8)} (h : L.map pr = a ++ b) : ∃ A B, L = A ++ B ∧ A.map pr = a ∧ B.map pr = b := by
 refine ⟨L.take a.length, L.drop a.length, (List.take_append_drop ..).symm, ?_, ?_⟩
 ·rw [List.map_take, h, List.take_left]
 ·rw [List.map_drop, h, List.drop_left]
theorem map_one {L : List Ln} {q : Nat × L8} {b : List (Nat × L8)} (h : L.map pr = q :: b) : ∃ x B, L = x :: B ∧ x.ind = q.1 ∧ x.text = q.2 ∧ B.map pr = b := by
 cases L with
 | nil => cases h
 | cons x B => injection h with h1 h2; exact ⟨x, B, rfl, by rw [← h1]; rfl, by rw [← h1]; rfl, h2⟩
theorem ind_sp (l : L8) : indN (32 :: l) = indN l + 1 := by unfold indN; rw [List.takeWhile_cons, if_pos (by decide)]; rfl
theorem ind_no {c : UInt8} (l : L8) (h : c ≠ 32) : indN (c :: l) = 0 := by unfold indN; rw [List.takeWhile_cons, if_neg (by simpa using h)]; rfl
theorem kid_cut {n : Nat} {x : Ln} {l : List Ln} (h : 1 < x.text.length) : kidS n x l = blkB (cut1 x :: l) := if_pos h
theorem kid_val {n : Nat} {x : Ln} {l : List Ln} {r : L8} (h : r ≠ []) : kidM n x l r = valL r x.no := if_pos h
def Reads (N : Nat) : Prop := ∀ (d : Nd) (p : Nat) (L R : List Ln), cntT d ≤ N → Fine d → shrt d = false → L.map pr = rws d p → low R p → blkB (L ++ R) = .ok d L.length
theorem hyp_dash (u : L8) : hyp (45 :: 32 :: u) = true := by
 unfold hyp
 rw [show (45 :: 32 :: u).headD 0 = (45 : UInt8) from rfl, show (45 :: 32 :: u).getD 1 0 = (32 : UInt8) from rfl]
 simp
theorem cut_dash {x : Ln} {u : L8} (h : x.text = 45 :: 32 :: u) (hu : u.headD 0 ≠ 32) : (cut1 x).ind = x.ind + 2 ∧ (cut1 x).text = u := by
 have e : indN (x.text.drop 1) = 1 := by
  rw [h]
  show indN (32 :: u) = 1
  rw [ind_sp]
  cases u with
  | nil => rfl
  | cons c u => rw [ind_no (c := c) u (show c ≠ 32 from hu)]
 unfold cut1
 refine ⟨by show x.ind + (1 + indN (x.text.drop 1)) = _; rw [e], ?_⟩
 show x.text.drop (1 + indN (x.text.drop 1)) = u
 rw [e, h]; rfl
theorem seq_reads {N : Nat} (IH : Reads N) : ∀ (ds : List Nd) (p : Nat) (L R : List Ln) (ad : List Nd), cntL ds ≤ N → (∀ d ∈ ds, Fine d) → L.map pr = rwS ds p → low R p → seqB p ad (L ++ R) = .ok (.mk 2 [] [] (ad ++ ds)) L.length
 | [], p, L, R, ad, _, _, h, hR => by
  rw [rwS] at h
  obtain rfl := List.map_eq_nil_iff.1 h
  rw [List.append_nil, List.nil_append]
  cases R with
  | nil => exact seq_nil _ _
  | cons y t => exact seq_low (hR y t rfl)
 | d :: ds, p, L, R, ad, hN, hf, h, hR => by
  rw [cntL] at hN
  rw [rwS] at h
  have hfd := hf d (List.mem_cons_self ..)
  have hfs : ∀ e ∈ ds, Fine e := fun e he => hf e (List.mem_cons_of_mem _ he)
  by_cases he : shrt d = true
  ·rw [if_pos he] at h
   obtain ⟨x, B, rfl, hi, ht, hB⟩ := map_one h
   obtain ⟨f1, f2, f3, f4, f5⟩ := scal_facts hfd he
   obtain ⟨c1, c2⟩ := cut_dash ht f4
   have hk : kidS p x (B ++ R) = .ok d 1 := by
    rw [kid_cut (by rw [ht]; simp), blk_val (by rw [c2]; exact f1) (by rw [c2]; exact f2), c2, f3]
   rw [List.cons_append, seq_kid hi (by rw [ht]; exact hyp_dash _), hk]
   show (seqB p (ad ++ [d]) ((B ++ R).drop 0)).more 1 = _
   rw [List.drop_zero, seq_reads IH ds p B R (ad ++ [d]) (by omega) hfs hB hR, List.append_assoc]
   show Res.ok _ (1 + B.length) = Res.ok _ (B.length + 1)
   rw [Nat.add_comm]; rfl
  ·rw [if_neg he] at h
   have he' : shrt d = false := by simpa using he
   obtain ⟨t1, tl, h1, h2, h3⟩ := rws_first _ d (p + 2) (Nat.le_refl _) hfd he'
   have hl : dash p (rws d (p + 2)) ++ rwS ds p = (p, 45 :: 32 :: t1) :: (tl ++ rwS ds p) := by rw [h1]; rfl
   rw [hl] at h
   obtain ⟨x, B, rfl, hi, ht, hB⟩ := map_one h
   obtain ⟨A, C, rfl, hA, hC⟩ := map_cut hB
   obtain ⟨c1, c2⟩ := cut_dash ht h2
   have hk : kidS p x (A ++ C ++ R) = .ok d (A.length + 1) := by
    rw [kid_cut (by rw [ht]; simp), List.append_assoc]
    have := IH d (p + 2) (cut1 x :: A) (C ++ R) (by omega) hfd he' (by
     rw [List.map_cons, hA, h1]
     show ((cut1 x).ind, (cut1 x).text) :: tl = _
     rw [c1, c2, hi]) (low_app (rwS_ind ds p hfs hC) hR (by omega))
    exact this
   rw [List.cons_append, seq_kid hi (by rw [ht]; exact hyp_dash _), hk]
   show (seqB p (ad ++ [d]) ((A ++ C ++ R).drop A.length)).more (A.length + 1) = _
   rw [List.append_assoc, List.drop_left, seq_reads IH ds p C R (ad ++ [d]) (by omega) hfs hC hR, List.append_assoc]
   show Res.ok _ (A.length + 1 + C.length) = Res.ok _ _
   rw [List.length_cons, List.length_append, show A.length + 1 + C.length = A.length + C.length + 1 by omega]; rfl
theorem map_reads {N : Nat} (IH : Reads N) : ∀ (ks : List L8) (ds : List Nd) (p : Nat) (L R : List Ln) (ak : List L8) (ad : List Nd), ks.length = ds.length → Once (ak ++ ks) → cntL ds ≤ N → (∀ d ∈ ds, Fine d) → L.map pr = rwM ks ds p → low R p → mapB p ak ad (L ++ R) = .ok (.mk 3 [] (ak ++ ks) (ad ++ ds)) L.length
 | [], d :: ds, _, _, _, _, _, hl, _, _, _, _, _ => by cases hl
 | k :: ks, [], _, _, _, _, _, hl, _, _, _, _, _ => by cases hl
 | [], [], p, L, R, ak, ad, _, _, _, _, h, hR => by
  rw [rwM] at h
  ·obtain rfl := List.map_eq_nil_iff.1 h
   rw [List.append_nil, List.append_nil, List.nil_append]
   cases R with
   | nil => exact map_nil _ _ _
   | cons y t => exact map_low (hR y t rfl)
  ·intros; contradiction
 | k :: ks, d :: ds, p, L, R, ak, ad, hl, ho, hN, hf, h, hR => by
  rw [cntL] at hN
  rw [rwM] at h
  have hfd := hf d (List.mem_cons_self ..)
  have hfs : ∀ e ∈ ds, Fine e := fun e he => hf e (List.mem_cons_of_mem _ he)
  have hl' : ks.length = ds.length := by simpa using hl
  have hka : k ∉ ak := by
   intro hm
   obtain ⟨i, hi, e⟩ := List.mem_iff_getElem.1 hm
   refine ho i ak.length (by rw [List.length_append]; omega) (by rw [List.length_append, List.length_cons]; omega) hi ?_
   rw [List.getElem_append_left hi, e, List.getElem_append_right (Nat.le_refl _)]
   simp
  have ho' : Once (ak ++ [k] ++ ks) := by rw [List.append_assoc]; exact ho
  by_cases he : shrt d = true
  ·rw [if_pos he] at h
   obtain ⟨x, B, rfl, hi, ht, hB⟩ := map_one h
   obtain ⟨f1, f2, f3, f4, f5⟩ := scal_facts hfd he
   have hent : entP x.text = some (some (k, scal d)) := by
    rw [ht]
    cases hs : scal d with
    | nil => exact absurd hs f5
    | cons c v => exact ent_key k (32 :: c :: v) (.inr ⟨c, v, rfl, by rw [hs] at f4; exact f4⟩)
   have hk : kidM p x (B ++ R) (scal d) = .ok d 1 := by rw [kid_val f5, f3]
   rw [List.cons_append, map_kid hi hent hka, hk]
   show (mapB p (ak ++ [k]) (ad ++ [d]) ((B ++ R).drop 0)).more 1 = _
   rw [List.drop_zero, map_reads IH ks ds p B R (ak ++ [k]) (ad ++ [d]) hl' ho' (by omega) hfs hB hR, List.append_assoc, List.append_assoc]
   show Res.ok _ (1 + B.length) = Res.ok _ (B.length + 1)
   rw [Nat.add_comm]; rfl
  ·rw [if_neg he] at h
   have he' : shrt d = false := by simpa using he
   rw [List.cons_append] at h
   obtain ⟨x, B, rfl, hi, ht, hB⟩ := map_one h
   obtain ⟨A, C, rfl, hA, hC⟩ := map_cut hB
   have hent : entP x.text = some (some (k, [])) := by rw [ht]; exact ent_key k [] (.inl rfl)
   have hA0 : ∃ y t, A = y :: t ∧ y.ind = p + 2 := by
    obtain ⟨t1, tl, h1, h2, h3⟩ := rws_first _ d (p + 2) (Nat.le_refl _) hfd he'
    rw [h1] at hA
    obtain ⟨y, t, e, e1, _⟩ := map_one hA
    exact ⟨y, t, e, e1⟩
   have hdeep : deep p (A ++ (C ++ R)) = true := by
    obtain ⟨y, t, rfl, hy⟩ := hA0
    rw [List.cons_append, show deep p (y :: (t ++ (C ++ R))) = decide (p < y.ind) from rfl, hy]
    exact decide_eq_true (by omega)
   have hk : kidM p x (A ++ C ++ R) [] = .ok d (1 + A.length) := by
    unfold kidM
    rw [if_neg (by simp), List.append_assoc, hdeep, Bool.true_or, if_pos rfl, IH d (p + 2) A (C ++ R) (by omega) hfd he' hA (low_app (rwM_ind ks ds p hC) hR (by omega))]
    rfl
   rw [List.cons_append, map_kid hi hent hka, hk]
   show (mapB p (ak ++ [k]) (ad ++ [d]) ((A ++ C ++ R).drop (1 + A.length - 1))).more (1 + A.length - 1 + 1) = _
   rw [Nat.add_sub_cancel_left, List.append_assoc, List.drop_left, map_reads IH ks ds p C R (ak ++ [k]) (ad ++ [d]) hl' ho' (by omega) hfs hC hR, List.append_assoc, List.append_assoc]
   show Res.ok _ (A.length + 1 + C.length) = Res.ok _ _
   rw [List.length_cons, List.length_append, show A.length + 1 + C.length = A.length + C.length + 1 by omega]; rfl
theorem reads : ∀ N, Reads N
 | 0 => fun d p L R h => by cases d with | mk k t ks ds => rw [cntT] at h; omega
 | N + 1 => fun d p L R h hf hs hL hR => by
  have IH := reads N
  obtain ⟨k, t, ks, ds⟩ := d
  have hff := hf
  obtain ⟨⟨h0, h3⟩, ht, hk, hd, hfd⟩ := fine_in hf
  rw [cntT] at h
  have hs' := hs
  unfold shrt at hs'
  rw [Bool.or_eq_false_iff] at hs'
  have h2 : ¬ k < 2 := of_decide_eq_false hs'.1
  have hne : ds ≠ [] := of_decide_eq_false hs'.2
  have ht' : t = [] := ht (by omega)
  subst ht'
  by_cases e2 : k = 2
  ·subst e2
   have hk' : ks = [] := hk (by decide)
   subst hk'
   rw [rws, if_pos rfl] at hL
   have hx : ∃ x B, L = x :: B ∧ x.ind = p ∧ hyp x.text = true := by
    cases ds with
    | nil => exact absurd rfl hne
    | cons e es =>
     rw [rwS] at hL
     by_cases he : shrt e = true
     ·rw [if_pos he] at hL
      obtain ⟨x, B, e1, e2, e3, _⟩ := map_one hL
      exact ⟨x, B, e1, e2, by rw [e3]; exact hyp_dash _⟩
     ·rw [if_neg he] at hL
      obtain ⟨t1, tl, h1, _, _⟩ := rws_first _ e (p + 2) (Nat.le_refl _) (hfd e (List.mem_cons_self ..)) (by simpa using he)
      rw [h1] at hL
      obtain ⟨x, B, e1, e2, e3, _⟩ := map_one hL
      exact ⟨x, B, e1, e2, by rw [e3]; exact hyp_dash _⟩
   obtain ⟨x, B, rfl, hi, hy⟩ := hx
   rw [List.cons_append, blk_seq hy, hi, ← List.cons_append, seq_reads IH ds p (x :: B) R [] (by omega) hfd hL hR, List.nil_append]
  ·have e3 : k = 3 := by omega
   subst e3
   have hkk : ks.length = ds.length ∧ (sortL ks).length = ks.length := by
    cases hff with
    | mk a b c dd ee => exact dd rfl
   rw [rws, if_neg (by decide)] at hL
   have hx : ∃ x B q, L = x :: B ∧ x.ind = p ∧ entP x.text = some (some q) := by
    cases ds with
    | nil => exact absurd rfl hne
    | cons e es =>
     cases ks with
     | nil => cases hkk.1
     | cons y ys =>
      rw [rwM] at hL
      by_cases he : shrt e = true
      ·rw [if_pos he] at hL
       obtain ⟨x, B, e1, e2, e3, _⟩ := map_one hL
       obtain ⟨f1, f2, f3, f4, f5⟩ := scal_facts (hfd e (List.mem_cons_self ..)) he
       refine ⟨x, B, (y, scal e), e1, e2, ?_⟩
       rw [e3]
       cases hs : scal e with
       | nil => exact absurd hs f5
       | cons c v => exact ent_key y (32 :: c :: v) (.inr ⟨c, v, rfl, by rw [hs] at f4; exact f4⟩)
      ·rw [if_neg he] at hL
       obtain ⟨x, B, e1, e2, e3, _⟩ := map_one hL
       exact ⟨x, B, _, e1, e2, by rw [e3]; exact ent_key y [] (.inl rfl)⟩
   obtain ⟨x, B, q, rfl, hi, hy⟩ := hx
   have hh : hyp x.text = false := by
    rw [Bool.eq_false_iff]
    intro e
    unfold entP at hy
    rw [e] at hy
    simp at hy
   rw [List.cons_append, blk_map hh hy, hi, ← List.cons_append, map_reads IH ks ds p (x :: B) R [] [] hkk.1 (by rw [List.nil_append]; exact once_of hkk.2) (by omega) hfd hL hR, List.nil_append, List.nil_append]
end E11
end Go.Proofs.YtmdgpejedbkkdaaGreatDoor
namespace Go.Proofs.YtmdgpejedbkkdaaGreatDoor
namespace E11
open Nw N8 Q6 F9 B10
def Lined (q : Nat × L8) : Prop := LineOK q.2 ∧ marker q.2 = false
theorem mark_dash (u : L8) : marker (45 :: 32 :: u) = false := by
 unfold marker
 rw [decide_eq_false (by intro h; injection h with h1 h2; injection h2 with h3 h4; revert h3; decide), decide_eq_false (by intro h; injection h with h1 h2; revert h1; decide)]; rfl
theorem mark_key (k u : L8) : marker (keyw k ++ 58 :: u) = false := by
 have hm : (58 : UInt8) ∈ keyw k ++ 58 :: u := List.mem_append.2 (.inr (List.mem_cons_self ..))
 unfold marker
 rw [decide_eq_false (by intro h; rw [h] at hm; revert hm; decide), decide_eq_false (by intro h; rw [h] at hm; revert hm; decide)]; rfl
theorem dash_all {p : Nat} {l : List (Nat × L8)} (h : ∀ x ∈ l, Lined x) : ∀ x ∈ dash p l, Lined x := by
 cases l with
 | nil => intro x hx; cases hx
 | cons y l =>
  intro x hx
  rcases List.mem_cons.1 hx with rfl | hx
  ·exact ⟨ok_dash (h y (List.mem_cons_self ..)).1, mark_dash _⟩
  ·exact h x (List.mem_cons_of_mem _ hx)
mutual
theorem rws_lined : ∀ (d : Nd) (p : Nat), ∀ x ∈ rws d p, Lined x
 | .mk k t ks ds, p => by
  intro x hx
  rw [rws] at hx
  by_cases h2 : k = 2
  ·rw [if_pos h2] at hx; exact rwS_lined ds p x hx
  ·rw [if_neg h2] at hx; exact rwM_lined ks ds p x hx
theorem rwS_lined : ∀ (ds : List Nd) (p : Nat), ∀ x ∈ rwS ds p, Lined x
 | [], p => by intro x hx; rw [rwS] at hx; cases hx
 | d :: ds, p => by
  intro x hx
  rw [rwS] at hx
  rcases List.mem_append.1 hx with hx | hx
  ·by_cases hs : shrt d = true
   ·rw [if_pos hs] at hx
    rw [List.mem_singleton.1 hx]
    exact ⟨ok_dash (ok_scal d), mark_dash _⟩
   ·rw [if_neg hs] at hx
    exact dash_all (rws_lined d (p + 2)) x hx
  ·exact rwS_lined ds p x hx
theorem rwM_lined : ∀ (ks : List L8) (ds : List Nd) (p : Nat), ∀ x ∈ rwM ks ds p, Lined x
 | k :: ks, d :: ds, p => by
  intro x hx
  rw [rwM] at hx
  rcases List.mem_append.1 hx with hx | hx
  ·by_cases hs : shrt d = true
   ·rw [if_pos hs] at hx
    rw [List.mem_singleton.1 hx]
    exact ⟨ok_key2 k (ok_scal d), mark_key _ _⟩
   ·rw [if_neg hs] at hx
    rcases List.mem_cons.1 hx with rfl | hx
    ·exact ⟨ok_key1 k, mark_key _ _⟩
    ·exact rws_lined d (p + 2) x hx
  ·exact rwM_lined ks ds p x hx
 | [], ds, p => by intro x hx; rw [rwM] at hx; cases hx; intros; contradiction
 | _ :: _, [], p => by intro x hx; rw [rwM] at hx; cases hx; intros; contradiction
end
theorem say_of {u : L8} (h : LineOK u) : sayL u = some u := by
 have h1 := h.say [] [] (rfl)
 simp only [List.nil_append, List.append_nil, List.length_nil, Nat.zero_add] at h1
 unfold sayL
 rw [h1, endAt_out (Nat.le_refl _)]
 show some (u.take (trimN u u.length)) = _
 rw [trimN_full (List.length_pos_iff.2 h.ne) h.last, List.take_length]
theorem fine_line {x : Ln} (h : LineOK x.text) (hm : marker x.text = false) : Q6.Fine x :=
 ⟨h.ne, h.no10, by rw [← headD_getD]; exact h.first.1, by rw [← headD_getD]; exact h.first.2, h.last, say_of h, fun ⟨_, e⟩ => by rw [hm] at e; cases e⟩
def flat (q : Nat × L8) : L8 := List.replicate q.1 32 ++ q.2 ++ [10]
def wrB (d : Nd) : L8 :=
 if d.kind = 0 then []
 else if d.kind = 1 ∧ marker d.text = true then dblL d.text ++ [10]
 else if shrt d then scal d ++ [10]
 else ((rws d 0).map flat).flatten
def lns (l : List (Nat × L8)) : List Ln := l.map fun q => ⟨0, q.1, q.2⟩
theorem join_lns (l : List (Nat × L8)) : joinL (lns l) = (l.map flat).flatten := by
 unfold joinL lns
 rw [List.map_map]; rfl
theorem again_pr : ∀ (ls : List Ln) (no : Nat), (again no ls).map pr = ls.map pr
 | [], no => rfl
 | x :: ls, no => by show pr _ :: (again (no + 1) ls).map pr = _; rw [again_pr ls]; rfl
theorem lns_pr (l : List (Nat × L8)) : (lns l).map pr = l := by
 unfold lns
 rw [List.map_map]
 exact List.map_id _
def Gives11 (w : L8) (d : Nd) : Prop := ∃ ls, splitL 0 [] w = (ls, 0, 0) ∧ ((ls = [] ∧ d = nul) ∨ (ls ≠ [] ∧ blkB ls = .ok d ls.length))
theorem Gives11.par {w : L8} {d : Nd} (h : Gives11 w d) (hd : okT 2000 d = true) (hs : w.length ≤ 8192) : parB w = (d, 0, 0) := by
 obtain ⟨ls, h1, h2⟩ := h
 have hf : fileL w = (ls, 0, 0) := by unfold fileL; rw [if_neg (by omega), h1]
 rcases h2 with ⟨rfl, rfl⟩ | ⟨a, b⟩
 ·exact par_nil hf
 ·cases ls with
  | nil => exact absurd rfl a
  | cons x ls => rw [par_cons hf, b, parK_end (Nat.le_refl _), if_pos hd]
theorem gives_lns {d : Nd} {l : List (Nat × L8)} (h : ∀ q ∈ l, LineOK q.2 ∧ marker q.2 = false) (h0 : l ≠ [])
  (hb : ∀ L : List Ln, L.map pr = l → blkB L = .ok d L.length) : Gives11 (l.map flat).flatten d := by
 have hp : (again 0 (lns l)).map pr = l := by rw [again_pr, lns_pr]
 refine ⟨again 0 (lns l), ?_, .inr ⟨fun e => ?_, hb _ hp⟩⟩
 ·rw [← join_lns, split_join (lns l) 0 [] (by
   intro x hx
   obtain ⟨q, hq, rfl⟩ := List.mem_map.1 hx
   exact fine_line (h q hq).1 (h q hq).2)]
  rfl
 ·rw [e] at hp; exact h0 hp.symm
theorem marker_scal {d : Nd} (h : ¬ (d.kind = 1 ∧ marker d.text = true)) : marker (scal d) = false := by
 obtain ⟨k, t, ks, ds⟩ := d
 show marker (if k = 0 then [110, 117, 108, 108] else if k = 1 then scw t else if k = 2 then [91, 93] else [123, 125]) = false
 by_cases h0 : k = 0
 ·rw [if_pos h0]; decide
 rw [if_neg h0]
 by_cases h1 : k = 1
 ·rw [if_pos h1]
  unfold scw
  by_cases hp : (plainB t && noq t) = true
  ·rw [if_pos hp, Bool.eq_false_iff]; exact fun e => h ⟨h1, e⟩
  ·rw [if_neg hp]; rfl
 rw [if_neg h1]
 by_cases h2 : k = 2
 ·rw [if_pos h2]; decide
 rw [if_neg h2]; decide
theorem flat_one (u : L8) : ([((0 : Nat), u)].map flat).flatten = u ++ [10] := by
 show (List.replicate 0 32 ++ u ++ [10]) ++ [] = _
 rw [List.append_nil]; rfl
theorem wr_gives {d : Nd} (hf : N8.Fine d) : Gives11 (wrB d) d := by
 obtain ⟨k, t, ks, ds⟩ := d
 obtain ⟨⟨h0, h3⟩, ht, hk, hds, hfd⟩ := fine_in hf
 by_cases e0 : k = 0
 ·subst e0
  have e : Nd.mk 0 t ks ds = nul := by rw [ht (by decide), hk (by decide), hds (by decide)]; rfl
  rw [e]
  exact ⟨[], splitL_nil _ _, .inl ⟨rfl, rfl⟩⟩
 by_cases e1 : k = 1 ∧ marker t = true
 ·have ew : wrB (.mk k t ks ds) = ([((0 : Nat), dblL t)].map flat).flatten := by
   rw [flat_one]
   show (if k = 0 then [] else if k = 1 ∧ marker t = true then dblL t ++ [10] else _) = _
   rw [if_neg e0, if_pos e1]
  rw [ew]
  have e : Nd.mk k t ks ds = txt t := by rw [e1.1, hk (by omega), hds (by omega)]; rfl
  have hdb : LineOK (dblL t) := ⟨by unfold dblL; simp, dbl_10 t, ⟨show (34 : UInt8) ≠ 32 by decide, show (34 : UInt8) ≠ 35 by decide⟩, by rw [dbl_last]; decide, say_dbl t⟩
  refine gives_lns (fun q hq => ?_) (by simp) fun L hL => ?_
  ·rw [List.mem_singleton.1 hq]; exact ⟨hdb, rfl⟩
  ·obtain ⟨x, B, rfl, hi, htx, hB⟩ := map_one hL
   obtain rfl := List.map_eq_nil_iff.1 hB
   have hd0 : dblL t = dblL t ++ [] := (List.append_nil _).symm
   have hsc : scnP (dblL t) = some (t, (dblL t).length) := by rw [hd0, scn_dbl, List.append_nil]
   have hent : entP x.text = some none := by
    rw [htx]
    unfold entP
    rw [decide_eq_false (by unfold dblL; simp : ¬ dblL t = []), show hyp (dblL t) = false from rfl, show (dblL t).headD 0 = 34 from rfl, show isQ 34 = true from rfl, hsc]
    show (if mrk (dblL t) (dblL t).length = true then _ else some none) = some none
    rw [if_neg]
    unfold mrk
    rw [List.getD_eq_getElem?_getD, List.getElem?_eq_none (Nat.le_refl _), show (decide ((none : Option UInt8).getD 0 = 58)) = false from rfl]
    simp
   rw [blk_val (by rw [htx]; rfl) hent, htx, e]
   unfold valL sclS
   rw [show bad3 (dblL t) = false by unfold bad3 dblL; cases ht : escL t ++ [34] <;> simp [ht], show (dblL t).headD 0 = 34 from rfl, show isQ 34 = true from rfl, hsc]
   show (match (if (true && decide (some (dblL t).length = some (dblL t).length)) = true then some (txt t) else _ : Option Nd) with | none => Res.bad _ 3 | some d => Res.ok d 1) = _
   rw [decide_eq_true rfl]; rfl
 by_cases es : shrt (.mk k t ks ds) = true
 ·have ew : wrB (.mk k t ks ds) = ([((0 : Nat), scal (.mk k t ks ds))].map flat).flatten := by
   rw [flat_one]
   show (if k = 0 then [] else if k = 1 ∧ marker t = true then dblL t ++ [10] else if shrt (.mk k t ks ds) = true then _ else _) = _
   rw [if_neg e0, if_neg e1, if_pos es]
  rw [ew]
  refine gives_lns (fun q hq => ?_) (by simp) fun L hL => ?_
  ·rw [List.mem_singleton.1 hq]; exact ⟨ok_scal (.mk k t ks ds), marker_scal (d := .mk k t ks ds) e1⟩
  ·obtain ⟨x, B, rfl, hi, htx, hB⟩ := map_one hL
   obtain rfl := List.map_eq_nil_iff.1 hB
   obtain ⟨f1, f2, f3, f4, f5⟩ := scal_facts hf es
   rw [blk_val (by rw [htx]; exact f1) (by rw [htx]; exact f2), htx, f3]; rfl
 ·have ew : wrB (.mk k t ks ds) = ((rws (.mk k t ks ds) 0).map flat).flatten := by
   show (if k = 0 then [] else if k = 1 ∧ marker t = true then dblL t ++ [10] else if shrt (.mk k t ks ds) = true then _ else _) = _
   rw [if_neg e0, if_neg e1, if_neg es]
  have es' : shrt (.mk k t ks ds) = false := by simpa using es
  rw [ew]
  obtain ⟨t1, tl, h1, _, _⟩ := rws_first _ _ 0 (Nat.le_refl _) hf es'
  refine gives_lns (rws_lined _ 0) (by rw [h1]; simp) fun L hL => ?_
  have := reads _ _ 0 L [] (Nat.le_refl _) hf es' hL (fun y t e => by cases e)
  rwa [List.append_nil] at this
theorem par_wr {d : Nd} (hd : okT 2000 d = true) (hs : (wrB d).length ≤ 8192) : parB (wrB d) = (d, 0, 0) := (wr_gives (ok_fine hd)).par hd hs
theorem par_long {d : Nd} (hs : 8192 < (wrB d).length) : parB (wrB d) = (nul, 0, 9) := par_err (by unfold fileL; rw [if_pos hs]) (by decide)
end E11
end Go.Proofs.YtmdgpejedbkkdaaGreatDoor
namespace Go.Proofs.YtmdgpejedbkkdaaGreatDoor
namespace E11
open Nw N8 Q6 F9 B10
def spn (n : Nat) : L8 := List.replicate n 32
def cat (l : List (Nat × L8)) : L8 := (l.map flat).flatten
theorem cat_cons (q : Nat × L8) (l : List (Nat × L8)) : cat (q :: l) = spn q.1 ++ q.2 ++ [10] ++ cat l := by unfold cat; rw [List.map_cons, List.flatten_cons]; rfl
theorem cat_app (a b : List (Nat × L8)) : cat (a ++ b) = cat a ++ cat b := by unfold cat; rw [List.map_append, List.flatten_append]
end E11
end Go.Proofs.YtmdgpejedbkkdaaGreatDoor
namespace Go.Proofs.YtmdgpejedbkkdaaGreatDoor
namespace E11
open Nw N8 Q6 F9 B10
def sumK : List L8 → Nat
 | [] => 0
 | k :: ks => k.length + sumK ks
mutual
def sumT : Nd → Nat
 | .mk _ t ks ds => t.length + sumK ks + sumL ds
def sumL : List Nd → Nat
 | [] => 0
 | d :: ds => sumT d + sumL ds
end
theorem scw_len (t : L8) : (scw t).length ≤ 4 * t.length + 2 := by
 unfold scw
 split
 ·omega
 ·exact dbl_len t
theorem keyw_len (t : L8) : (keyw t).length ≤ 4 * t.length + 2 := by
 unfold keyw
 split
 ·exact dbl_len t
 ·exact scw_len t
theorem scal_len (d : Nd) : (scal d).length ≤ 4 * sumT d + 4 := by
 obtain ⟨k, t, ks, ds⟩ := d
 have h := scw_len t
 rw [sumT]
 show (if k = 0 then [110, 117, 108, 108] else if k = 1 then scw t else if k = 2 then [91, 93] else [123, 125]).length ≤ _
 by_cases h0 : k = 0
 ·rw [if_pos h0]; show 4 ≤ _; omega
 rw [if_neg h0]
 by_cases h1 : k = 1
 ·rw [if_pos h1]; omega
 rw [if_neg h1]
 by_cases h2 : k = 2
 ·rw [if_pos h2]; show 2 ≤ _; omega
 rw [if_neg h2]; show 2 ≤ _; omega
theorem spn_len (n : Nat) : (spn n).length = n := List.length_replicate
theorem cat_len (q : Nat × L8) (l : List (Nat × L8)) : (cat (q :: l)).length = q.1 + q.2.length + 1 + (cat l).length := by
 rw [cat_cons, List.length_append, List.length_append, List.length_append, spn_len]; rfl
theorem dash_len (p : Nat) (l : List (Nat × L8)) (h : ∀ x ∈ l.head?, x.1 = p + 2) : (cat (dash p l)).length = (cat l).length := by
 cases l with
 | nil => rfl
 | cons x l =>
  have hx : x.1 = p + 2 := h x rfl
  show (cat ((p, 45 :: 32 :: x.2) :: l)).length = _
  rw [cat_len, cat_len, hx]
  show p + (x.2.length + 1 + 1) + 1 + _ = _
  omega
theorem cnt_pos (d : Nd) : 1 ≤ cntT d := by obtain ⟨k, t, ks, ds⟩ := d; rw [cntT]; omega
theorem mul_up {a b c d : Nat} (h1 : a ≤ b) (h2 : c ≤ d) : a * c ≤ b * d := Nat.mul_le_mul h1 h2
theorem size_all : ∀ N : Nat,
  (∀ (d : Nd) (n : Nat), cntT d ≤ N → N8.Fine d → shrt d = false → (cat (rws d n)).length ≤ (cntT d - 1) * (n + 2 * depT d + 20) + 4 * sumT d) ∧
  (∀ (ds : List Nd) (n : Nat), cntL ds ≤ N → (∀ d ∈ ds, N8.Fine d) → (cat (rwS ds n)).length ≤ cntL ds * (n + 2 * depL ds + 22) + 4 * sumL ds) ∧
  (∀ (ds : List Nd) (ks : List L8) (n : Nat), cntL ds ≤ N → ks.length = ds.length → (∀ d ∈ ds, N8.Fine d) → (cat (rwM ks ds n)).length ≤ cntL ds * (n + 2 * depL ds + 22) + 4 * (sumK ks + sumL ds)) := by
 intro N
 induction N with
 | zero =>
  refine ⟨fun d n h => ?_, fun ds n h hf => ?_, fun ds ks n h hl hf => ?_⟩
  ·have := cnt_pos d; omega
  ·cases ds with
   | nil => rw [rwS]; exact Nat.zero_le _
   | cons d ds => rw [cntL] at h; have := cnt_pos d; omega
  ·cases ds with
   | nil =>
    cases ks with
    | nil => rw [rwM]; exact Nat.zero_le _; all_goals (intros; contradiction)
    | cons k ks => cases hl
   | cons d ds => rw [cntL] at h; have := cnt_pos d; omega
 | succ N ih =>
  obtain ⟨ih1, ih2, ih3⟩ := ih
  have tree : ∀ (d : Nd) (n : Nat), cntT d ≤ N + 1 → N8.Fine d → shrt d = false → (cat (rws d n)).length ≤ (cntT d - 1) * (n + 2 * depT d + 20) + 4 * sumT d := by
   intro d n h hf hs
   obtain ⟨k, t, ks, ds⟩ := d
   have hff := hf
   obtain ⟨⟨h0, h3⟩, ht, hk, hd, hfd⟩ := fine_in hf
   rw [cntT] at h ⊢
   rw [depT, sumT, Nat.add_sub_cancel_left, show n + 2 * (1 + depL ds) + 20 = n + 2 * depL ds + 22 by omega]
   unfold shrt at hs
   rw [Bool.or_eq_false_iff] at hs
   have h2 : ¬ k < 2 := of_decide_eq_false hs.1
   by_cases e2 : k = 2
   ·have := ih2 ds n (by omega) hfd
    rw [rws, if_pos e2]; omega
   ·have hl : ks.length = ds.length := by
     cases hff with
     | mk a b c dd ee => exact (dd (by omega)).1
    have := ih3 ds ks n (by omega) hl hfd
    rw [rws, if_neg e2]; omega
  have seq : ∀ (ds : List Nd) (n : Nat), cntL ds ≤ N + 1 → (∀ d ∈ ds, N8.Fine d) → (cat (rwS ds n)).length ≤ cntL ds * (n + 2 * depL ds + 22) + 4 * sumL ds := by
   intro ds
   induction ds with
   | nil => intro n _ _; rw [rwS]; exact Nat.zero_le _
   | cons d ds ihd =>
    intro n h hf
    rw [cntL] at h ⊢
    rw [depL, sumL]
    have hfd := hf d (List.mem_cons_self ..)
    have hr := ihd n (by omega) fun e he => hf e (List.mem_cons_of_mem _ he)
    have hp := cnt_pos d
    have m1 : cntL ds * (n + 2 * depL ds + 22) ≤ cntL ds * (n + 2 * max (depT d) (depL ds) + 22) := mul_up (Nat.le_refl _) (by omega)
    have m2 : 1 * (n + 2 * max (depT d) (depL ds) + 22) ≤ cntT d * (n + 2 * max (depT d) (depL ds) + 22) := mul_up hp (Nat.le_refl _)
    rw [Nat.add_mul]
    by_cases hs : shrt d = true
    ·have hl := scal_len d
     rw [rwS, if_pos hs, cat_app, List.length_append, cat_len]
     show n + ((scal d).length + 1 + 1) + 1 + 0 + _ ≤ _
     omega
    ·have hs' : shrt d = false := by simpa using hs
     have ht := tree d (n + 2) (by omega) hfd hs'
     obtain ⟨t1, tl, h1, _, _⟩ := rws_first _ d (n + 2) (Nat.le_refl _) hfd hs'
     have hd := dash_len n (rws d (n + 2)) (by rw [h1]; intro x hx; cases hx; rfl)
     have m3 : (cntT d - 1) * (n + 2 + 2 * depT d + 20) ≤ cntT d * (n + 2 * max (depT d) (depL ds) + 22) := mul_up (by omega) (by omega)
     rw [rwS, if_neg hs, cat_app, List.length_append, hd]
     omega
  have mp : ∀ (ds : List Nd) (ks : List L8) (n : Nat), cntL ds ≤ N + 1 → ks.length = ds.length → (∀ d ∈ ds, N8.Fine d) → (cat (rwM ks ds n)).length ≤ cntL ds * (n + 2 * depL ds + 22) + 4 * (sumK ks + sumL ds) := by
   intro ds
   induction ds with
   | nil =>
    intro ks n _ hl _
    cases ks with
    | nil => rw [rwM]; exact Nat.zero_le _; all_goals (intros; contradiction)
    | cons k ks => cases hl
   | cons d ds ihd =>
    intro ks n h hl hf
    cases ks with
    | nil => cases hl
    | cons k ks =>
     rw [cntL] at h ⊢
     rw [depL, sumL, sumK]
     have hfd := hf d (List.mem_cons_self ..)
     have hr := ihd ks n (by omega) (by simpa using hl) fun e he => hf e (List.mem_cons_of_mem _ he)
     have hp := cnt_pos d
     have hk := keyw_len k
     have m1 : cntL ds * (n + 2 * depL ds + 22) ≤ cntL ds * (n + 2 * max (depT d) (depL ds) + 22) := mul_up (Nat.le_refl _) (by omega)
     rw [Nat.add_mul]
     by_cases hs : shrt d = true
     ·have hl := scal_len d
      have m2 : 1 * (n + 2 * max (depT d) (depL ds) + 22) ≤ cntT d * (n + 2 * max (depT d) (depL ds) + 22) := mul_up hp (Nat.le_refl _)
      rw [rwM, if_pos hs, cat_app, List.length_append, cat_len]
      show n + (keyw k ++ 58 :: 32 :: scal d).length + 1 + 0 + _ ≤ _
      rw [List.length_append, List.length_cons, List.length_cons]
      omega
     ·have hs' : shrt d = false := by simpa using hs
      have ht := tree d (n + 2) (by omega) hfd hs'
      have m3 : (cntT d - 1) * (n + 2 + 2 * depT d + 20) ≤ (cntT d - 1) * (n + 2 * max (depT d) (depL ds) + 22) := mul_up (Nat.le_refl _) (by omega)
      have m4 : cntT d * (n + 2 * max (depT d) (depL ds) + 22) = (cntT d - 1) * (n + 2 * max (depT d) (depL ds) + 22) + (n + 2 * max (depT d) (depL ds) + 22) := by
       obtain ⟨c, hc⟩ : ∃ c, cntT d = c + 1 := ⟨cntT d - 1, by omega⟩
       rw [hc, Nat.add_sub_cancel, Nat.add_mul, Nat.one_mul]
      rw [rwM, if_neg hs, cat_app, List.length_append, cat_len]
      show n + (keyw k ++ [58]).length + 1 + _ + _ ≤ _
      rw [List.length_append]
      show n + ((keyw k).length + 1) + 1 + _ + _ ≤ _
      omega
  exact ⟨tree, seq, mp⟩
theorem wrB_len {d : Nd} {m : Nat} (hd : okT (m : Int) d = true) : (wrB d).length ≤ m * 44 + 4 * sumT d + 8 := by
 obtain ⟨hf, hc, hdep⟩ := ok_iff.1 hd
 have hsc := scal_len d
 by_cases h0 : d.kind = 0
 ·unfold wrB; rw [if_pos h0]; exact Nat.zero_le _
 by_cases h1 : d.kind = 1 ∧ marker d.text = true
 ·unfold wrB; rw [if_neg h0, if_pos h1]
  have := dbl_len d.text
  obtain ⟨k, t, ks, ds⟩ := d
  rw [sumT, List.length_append]
  show (dblL t).length + 1 ≤ _
  have e : (dblL (Nd.mk k t ks ds).text).length ≤ 4 * t.length + 2 := this
  have e2 : (dblL t).length ≤ 4 * t.length + 2 := e
  omega
 by_cases hs : shrt d = true
 ·unfold wrB; rw [if_neg h0, if_neg h1, if_pos hs, List.length_append]
  show (scal d).length + 1 ≤ _
  omega
 ·have hs' : shrt d = false := by simpa using hs
  have := (size_all _).1 d 0 (Nat.le_refl _) hf hs'
  have m1 : (cntT d - 1) * (0 + 2 * depT d + 20) ≤ m * 44 := mul_up (by omega) (by omega)
  have e : wrB d = cat (rws d 0) := by unfold wrB; rw [if_neg h0, if_neg h1, if_neg hs]; rfl
  rw [e]
  omega
theorem sumK_le : ∀ ks : List L8, (ks.all fun k => decide (k.length ≤ 200)) = true → sumK ks ≤ 200 * ks.length
 | [], _ => Nat.zero_le _
 | k :: ks, h => by
  rw [List.all_cons, Bool.and_eq_true] at h
  have h1 := of_decide_eq_true h.1
  have h2 := sumK_le ks h.2
  rw [sumK, List.length_cons]; omega
mutual
theorem short_sum : ∀ d : Nd, N8.Fine d → shortT d = true → sumT d + 200 ≤ 400 * cntT d
 | .mk k t ks ds, hf, h => by
  have hff := hf
  obtain ⟨_, _, hk, _, hfd⟩ := fine_in hf
  rw [shortT, Bool.and_eq_true, Bool.and_eq_true] at h
  have h1 := of_decide_eq_true h.1.1
  have h2 := sumK_le ks h.1.2
  have h3 := short_sumL ds hfd h.2
  have h4 : ks.length ≤ ds.length := by
   by_cases e : k = 3
   ·cases hff with
    | mk a b c dd ee => rw [(dd e).1]; exact Nat.le_refl _
   ·rw [hk e]; exact Nat.zero_le _
  rw [sumT, cntT]; omega
theorem short_sumL : ∀ ds : List Nd, (∀ d ∈ ds, N8.Fine d) → shortL ds = true → sumL ds + 200 * ds.length ≤ 400 * cntL ds
 | [], _, _ => Nat.le_refl _
 | d :: ds, hf, h => by
  rw [shortL, Bool.and_eq_true] at h
  have h1 := short_sum d (hf d (List.mem_cons_self ..)) h.1
  have h2 := short_sumL ds (fun e he => hf e (List.mem_cons_of_mem _ he)) h.2
  rw [sumL, cntL, List.length_cons]; omega
end
theorem wrB_small {d : Nd} (hd : okT 200 d = true) (hs : shortT d = true) : (wrB d).length ≤ 328808 := by
 have h1 := wrB_len (m := 200) hd
 obtain ⟨hf, hc, _⟩ := ok_iff.1 (show okT ((200 : Nat) : Int) d = true from hd)
 have h2 := short_sum d hf hs
 omega
end E11
end Go.Proofs.YtmdgpejedbkkdaaGreatDoor
