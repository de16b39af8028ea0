/- BloScale, BloSpread, BloLone, BloSprd -/
import Derived.Test.YtecglpocmhkkiaaGreatDoorST12
import Derived.Test.YtecglpocmhkkiaaGreatDoorST14
import Derived.Test.YtecglpocmhkkiaaGreatDoorST18
set_option linter.unusedVariables false
set_option linter.unusedSimpArgs false
set_option maxRecDepth 100000
set_option maxHeartbeats 16000000
namespace Go.Proofs.YtecglpocmhkkiaaGreatDoor
namespace B10
open Nw N8 Q6 F9
inductive Sim : Res → Res → Prop
 | bad {a b : Nat} {e : Int} : Sim (.bad a e) (.bad b e)
 | ok {d : Nd} {k : Nat} : Sim (.ok d k) (.ok d k)
inductive Far (t : Nat) : List Ln → List Ln → Prop
 | nil : Far t [] []
 | cons {x y : Ln} {l m : List Ln} (hi : y.ind = t * x.ind) (ht : y.text = x.text) (hh : hyp x.text = false) (h : Far t l m) : Far t (x :: l) (y :: m)
theorem Far.drop {t : Nat} : ∀ {l m : List Ln} (k : Nat), Far t l m → Far t (l.drop k) (m.drop k)
 | _, _, 0, h => h
 | _, _, _ + 1, .nil => .nil
 | _, _, k + 1, .cons hi ht hh h => Far.drop k h
theorem Far.deep {t n : Nat} (ht : 0 < t) {l m : List Ln} (h : Far t l m) : deep (t * n) m = deep n l := by
 cases h with
 | nil => rfl
 | cons hi h2 hh h =>
  unfold B10.deep
  show decide (t * n < _) = _
  rw [hi]
  exact decide_eq_decide.2 ⟨fun h => Nat.lt_of_mul_lt_mul_left h, fun h => Nat.mul_lt_mul_of_pos_left h ht⟩
theorem Far.even {t n : Nat} {l m : List Ln} (h : Far t l m) : even n l = false ∧ even (t * n) m = false := by
 cases h with
 | nil => exact ⟨rfl, rfl⟩
 | cons hi h2 hh h =>
  unfold B10.even
  show (decide _ && hyp _) = false ∧ (decide _ && hyp _) = false
  rw [h2, hh, Bool.and_false, Bool.and_false]
  exact ⟨rfl, rfl⟩
theorem sim_val (l : L8) (a b : Nat) : Sim (valL l a) (valL l b) := by
 unfold valL
 split
 ·split
  ·exact .ok
  ·exact .bad
 ·split
  ·exact .bad
  ·exact .ok
theorem Sim.more {r s : Res} (h : Sim r s) (j : Nat) : Sim (r.more j) (s.more j) := by
 cases h with
 | bad => exact .bad
 | ok => exact .ok
theorem scale : ∀ (t : Nat), 0 < t → ∀ (N : Nat),
  (∀ x l y m, 2 * big (x :: l) + 1 ≤ N → Far t (x :: l) (y :: m) → Sim (blkB (x :: l)) (blkB (y :: m))) ∧
  (∀ n ak ad l m, 2 * big l ≤ N → Far t l m → Sim (mapB n ak ad l) (mapB (t * n) ak ad m)) := by
 intro t ht N
 induction N with
 | zero =>
  refine ⟨fun x l y m h => absurd h (by omega), fun n ak ad l m h hf => ?_⟩
  cases hf with
  | nil => rw [map_nil, map_nil]; exact .ok
  | cons => simp only [big] at h; omega
 | succ N ih =>
  obtain ⟨ih1, ih2⟩ := ih
  refine ⟨fun x l y m h hf => ?_, fun n ak ad l m h hf => ?_⟩
  ·have hf0 := hf
   cases hf with
   | cons hi h2 hh hf =>
    have hh2 : hyp y.text = false := by rw [h2]; exact hh
    cases he : entP x.text with
    | none =>
     rw [blk_bad hh he, blk_bad hh2 (by rw [h2]; exact he)]
     exact .bad
    | some o =>
     cases o with
     | none =>
      rw [blk_val hh he, blk_val hh2 (by rw [h2]; exact he), h2]
      exact sim_val _ _ _
     | some p =>
      rw [blk_map hh he, blk_map hh2 (by rw [h2]; exact he), hi]
      exact ih2 _ _ _ _ _ (by omega) hf0
  ·cases hf with
   | nil => rw [map_nil, map_nil]; exact .ok
   | @cons x y l m hi h2 hh hf =>
    have hbig : big (x :: l) = 1 + x.text.length + big l := rfl
    rcases Nat.lt_trichotomy x.ind n with hlt | heq | hgt
    ·rw [map_low hlt, map_low (by rw [hi]; exact Nat.mul_lt_mul_of_pos_left hlt ht)]
     exact .ok
    ·have heq2 : y.ind = t * n := by rw [hi, heq]
     cases he : entP x.text with
     | none => rw [map_bad heq he, map_bad heq2 (by rw [h2]; exact he)]; exact .bad
     | some o =>
      cases o with
      | none => rw [map_other heq he, map_other heq2 (by rw [h2]; exact he)]; exact .ok
      | some p =>
       obtain ⟨k, r⟩ := p
       by_cases hk : k ∈ ak
       ·rw [map_twice heq he hk, map_twice heq2 (by rw [h2]; exact he) hk]; exact .bad
       ·rw [map_kid heq he hk, map_kid heq2 (by rw [h2]; exact he) hk]
        have hkid : Sim (kidM n x l r) (kidM (t * n) y m r) := by
         unfold kidM
         by_cases hr : r ≠ []
         ·rw [if_pos hr, if_pos hr]; exact sim_val _ _ _
         ·rw [if_neg hr, if_neg hr, hf.deep ht, (hf.even (n := n)).1, (hf.even (n := n)).2]
          by_cases hd : (B10.deep n l || false) = true
          ·rw [if_pos hd, if_pos hd]
           cases hf with
           | nil => cases hd
           | cons hi2 h3 hh3 hf => exact (ih1 _ _ _ _ (by simp only [big] at h ⊢; omega) (.cons hi2 h3 hh3 hf)).more 1
          ·rw [if_neg hd, if_neg hd]; exact .ok
        generalize kidM n x l r = K at hkid
        generalize kidM (t * n) y m r = K2 at hkid
        cases hkid with
        | bad => exact .bad
        | @ok d j =>
         have hb := big_drop (j - 1) l
         exact (ih2 n _ _ _ _ (by omega) (hf.drop (j - 1))).more _
    ·rw [map_high hgt, map_high (by rw [hi]; exact Nat.mul_lt_mul_of_pos_left hgt ht)]
     exact .bad
theorem blk_scale {t : Nat} (ht : 0 < t) {x y : Ln} {l m : List Ln} (h : Far t (x :: l) (y :: m)) : Sim (blkB (x :: l)) (blkB (y :: m)) := (scale t ht _).1 x l y m (Nat.le_refl _) h
end B10
end Go.Proofs.YtecglpocmhkkiaaGreatDoor
namespace Go.Proofs.YtecglpocmhkkiaaGreatDoor
namespace B10
open Nw N8 Q6 F9
def sps (n : Nat) : L8 := List.replicate n 32
def sprL (t : Nat) (l : L8) : L8 :=
 if h : l = [] then []
 else 10 :: 35 :: 10 :: (sps (t * indN (l.take (rowN l))) ++ ((l.take (rowN l)).drop (indN (l.take (rowN l))) ++ (if rowN l < l.length then 10 :: sprL t (l.drop (rowN l + 1)) else [])))
 termination_by l.length
 decreasing_by
  rw [List.length_drop]
  have := List.length_pos_iff.2 h
  omega
theorem sprL_nil (t : Nat) : sprL t [] = [] := by rw [sprL, dif_pos rfl]
theorem sprL_row {t : Nat} {l : L8} (h : l ≠ []) : sprL t l = 10 :: 35 :: 10 :: (sps (t * indN (l.take (rowN l))) ++ ((l.take (rowN l)).drop (indN (l.take (rowN l))) ++ (if rowN l < l.length then 10 :: sprL t (l.drop (rowN l + 1)) else []))) := by
 rw [sprL, dif_neg h]
theorem indN_sp (l : L8) : indN (32 :: l) = indN l + 1 := by unfold indN; rw [List.takeWhile_cons, if_pos (by decide)]; rfl
theorem indN_no {c : UInt8} (l : L8) (h : c ≠ 32) : indN (c :: l) = 0 := by unfold indN; rw [List.takeWhile_cons, if_neg (by simpa using h)]; rfl
theorem indN_idem : ∀ l : L8, indN (l.drop (indN l)) = 0
 | [] => rfl
 | c :: l => by
  by_cases hc : c = 32
  ·subst hc
   rw [indN_sp]
   exact indN_idem l
  ·rw [indN_no l hc]
   exact indN_no l hc
theorem indN_sps (n : Nat) (l : L8) : indN (sps n ++ l) = n + indN l := by
 induction n with
 | zero => show indN l = 0 + indN l; omega
 | succ n ih =>
  show indN (32 :: (sps n ++ l)) = _
  rw [indN_sp, ih]; omega
theorem drop_sps (n : Nat) (l : L8) : (sps n ++ l).drop n = l := by
 exact List.drop_left' (List.length_replicate)
theorem oneL_far {t : Nat} (ht : 0 < t) (row : L8) : oneL (sps (t * indN row) ++ row.drop (indN row)) = (oneL row).map fun p => (t * p.1, p.2) := by
 have h1 : indN (sps (t * indN row) ++ row.drop (indN row)) = t * indN row := by rw [indN_sps, indN_idem]; omega
 unfold oneL
 rw [h1, drop_sps]
 cases sayL (row.drop (indN row)) with
 | none => rfl
 | some x =>
  show (if t * indN row = 0 ∧ marker x = true then none else some (t * indN row, x)) = (if indN row = 0 ∧ marker x = true then none else some (indN row, x)).map _
  by_cases h0 : indN row = 0
  ·rw [h0, Nat.mul_zero]
   by_cases hm : marker x = true
   ·rw [if_pos ⟨rfl, hm⟩]; rfl
   ·rw [if_neg (fun h => hm h.2)]; rfl
  ·have : t * indN row ≠ 0 := Nat.mul_ne_zero (by omega) h0
   rw [if_neg (fun h => this h.1), if_neg (fun h => h0 h.1)]; rfl
theorem oneL_mark : oneL [35] = some (0, []) := by
 have e : sayL [35] = some [] := by
  unfold sayL
  rw [endAt_mark (by decide) (by decide)]
  rfl
 unfold oneL
 rw [show indN [35] = 0 from rfl, show ([35] : L8).drop 0 = [35] from rfl, e]
 rfl
theorem rowN_app {a b : L8} (ha : ∀ c ∈ a, c ≠ 10) : rowN (a ++ 10 :: b) = a.length := by
 induction a with
 | nil => rfl
 | cons c a ih =>
  rw [List.cons_append, rowN_ne _ (ha c List.mem_cons_self), ih fun d hd => ha d (List.mem_cons_of_mem _ hd)]
  rfl
theorem rowN_all {a : L8} (ha : ∀ c ∈ a, c ≠ 10) : rowN a = a.length := by
 induction a with
 | nil => rfl
 | cons c a ih =>
  rw [rowN_ne _ (ha c List.mem_cons_self), ih fun d hd => ha d (List.mem_cons_of_mem _ hd)]
  rfl
theorem row_no (l : L8) : ∀ c ∈ l.take (rowN l), c ≠ 10 := by
 induction l with
 | nil => intro c hc; cases hc
 | cons d l ih =>
  intro c hc
  by_cases hd : d = 10
  ·subst hd; rw [rowN_lf] at hc; cases hc
  ·rw [rowN_ne l hd, List.take_succ_cons] at hc
   rcases List.mem_cons.1 hc with rfl | hc
   ·exact hd
   ·exact ih c hc
theorem Far.snoc {t : Nat} {x y : Ln} : ∀ {l m : List Ln}, Far t l m → y.ind = t * x.ind → y.text = x.text → hyp x.text = false → Far t (l ++ [x]) (m ++ [y])
 | _, _, .nil, h1, h2, h3 => .cons h1 h2 h3 .nil
 | _, _, .cons a b c h, h1, h2, h3 => .cons a b c (Far.snoc h h1 h2 h3)
theorem split_far {t : Nat} (ht : 0 < t) (ok : L8 → Prop) (hok : ∀ l, ok l → l ≠ [] → (∀ k x, oneL (l.take (rowN l)) = some (k, x) → hyp x = false) ∧ ok (l.drop (rowN l + 1))) : ∀ (n : Nat) (l : L8), l.length ≤ n → ok l → ∀ no no2 acc acc2, Far t acc acc2 →
  (splitL no acc l).2.2 = (splitL no2 acc2 (sprL t l)).2.2 ∧ Far t (splitL no acc l).1 (splitL no2 acc2 (sprL t l)).1 := by
 intro n
 induction n with
 | zero =>
  intro l hl ho no no2 acc acc2 hf
  have : l = [] := List.length_eq_zero_iff.1 (by omega)
  subst this
  rw [sprL_nil, splitL_nil, splitL_nil]
  exact ⟨rfl, hf⟩
 | succ n ih =>
  intro l hl ho no no2 acc acc2 hf
  by_cases h0 : l = []
  ·subst h0
   rw [sprL_nil, splitL_nil, splitL_nil]
   exact ⟨rfl, hf⟩
  ·obtain ⟨o1, o2⟩ := hok l ho h0
   rw [sprL_row h0]
   generalize hw : l.take (rowN l) = row at *
   have hrow : ∀ c ∈ sps (t * indN row) ++ row.drop (indN row), c ≠ 10 := fun c hc => by
    rcases List.mem_append.1 hc with hc | hc
    ·rw [(List.mem_replicate.1 hc).2]; decide
    ·rw [← hw] at hc; exact row_no l c (List.mem_of_mem_drop hc)
   have e1 : oneL ((10 :: 35 :: 10 :: (sps (t * indN row) ++ (row.drop (indN row) ++ (if rowN l < l.length then 10 :: sprL t (l.drop (rowN l + 1)) else [])))).take 0) = some (0, []) := oneL_nil
   rw [splitL_next (no := no2) (by simp) (by rw [rowN_lf]; exact e1), rowN_lf, if_pos rfl, List.drop_succ_cons, List.drop_zero]
   have r1 : rowN (35 :: 10 :: (sps (t * indN row) ++ (row.drop (indN row) ++ (if rowN l < l.length then 10 :: sprL t (l.drop (rowN l + 1)) else [])))) = 1 := by rw [rowN_ne _ (by decide), rowN_lf]
   rw [splitL_next (no := no2 + 1) (k := 0) (t := []) (by simp) (by rw [r1]; exact oneL_mark), r1, if_pos rfl]
   show _ = (splitL (no2 + 1 + 1) acc2 (sps (t * indN row) ++ (row.drop (indN row) ++ _))).2.2 ∧ Far t _ (splitL (no2 + 1 + 1) acc2 (sps (t * indN row) ++ (row.drop (indN row) ++ _))).1
   rw [← List.append_assoc]
   generalize hv : sps (t * indN row) ++ row.drop (indN row) = v at *
   have hone : oneL v = (oneL row).map fun p => (t * p.1, p.2) := by rw [← hv]; exact oneL_far ht row
   by_cases hlt : rowN l < l.length
   ·rw [if_pos hlt]
    have r2 : rowN (v ++ 10 :: sprL t (l.drop (rowN l + 1))) = v.length := rowN_app hrow
    have tk : (v ++ 10 :: sprL t (l.drop (rowN l + 1))).take v.length = v := List.take_left' rfl
    have dk : (v ++ 10 :: sprL t (l.drop (rowN l + 1))).drop (v.length + 1) = sprL t (l.drop (rowN l + 1)) := by rw [← List.drop_drop, List.drop_left' rfl]; rfl
    cases hr : oneL row with
    | none =>
     rw [hr] at hone
     rw [splitL_bad h0 (by rw [hw]; exact hr), splitL_bad (by simp) (by rw [r2, tk]; exact hone)]
     exact ⟨rfl, .nil⟩
    | some p =>
     obtain ⟨k, x⟩ := p
     rw [hr] at hone
     rw [splitL_next h0 (by rw [hw]; exact hr), splitL_next (no := no2 + 1 + 1) (by simp) (by rw [r2, tk]; exact hone), r2, dk]
     refine ih _ (by rw [List.length_drop]; omega) o2 _ _ _ _ ?_
     by_cases hx : x = []
     ·rw [if_pos hx, if_pos hx]; exact hf
     ·rw [if_neg hx, if_neg hx]
      exact hf.snoc rfl rfl (o1 k x hr)
   ·rw [if_neg hlt, List.append_nil]
    have hle : l.length ≤ rowN l + 1 := by omega
    have hdl : l.drop (rowN l + 1) = [] := List.drop_of_length_le hle
    by_cases hv0 : v = []
    ·have hr0 : row = [] := by
      rw [← hv] at hv0
      have h3 := List.append_eq_nil_iff.1 hv0
      cases hrw : row with
      | nil => rfl
      | cons c r =>
       rw [hrw] at h3
       by_cases hc : c = 32
       ·subst hc
        have h4 := congrArg List.length h3.1
        unfold sps at h4
        rw [List.length_replicate, indN_sp, List.length_nil, Nat.mul_add] at h4
        omega
       ·rw [indN_no r hc] at h3
        cases h3.2
     subst hr0
     rw [hv0, splitL_nil, splitL_next h0 (by rw [hw]; exact oneL_nil), hdl, splitL_nil, if_pos rfl]
     exact ⟨rfl, hf⟩
    ·have r2 : rowN v = v.length := rowN_all hrow
     have tk : v.take v.length = v := List.take_length
     have dk : v.drop (v.length + 1) = [] := List.drop_of_length_le (by omega)
     cases hr : oneL row with
     | none =>
      rw [hr] at hone
      rw [splitL_bad h0 (by rw [hw]; exact hr), splitL_bad hv0 (by rw [r2, tk]; exact hone)]
      exact ⟨rfl, .nil⟩
     | some p =>
      obtain ⟨k, x⟩ := p
      rw [hr] at hone
      rw [splitL_next h0 (by rw [hw]; exact hr), splitL_next (no := no2 + 1 + 1) hv0 (by rw [r2, tk]; exact hone), r2, dk, hdl, splitL_nil, splitL_nil]
      refine ⟨rfl, ?_⟩
      by_cases hx : x = []
      ·rw [if_pos hx, if_pos hx]; exact hf
      ·rw [if_neg hx, if_neg hx]
       exact hf.snoc rfl rfl (o1 k x hr)
end B10
end Go.Proofs.YtecglpocmhkkiaaGreatDoor
namespace Go.Proofs.YtecglpocmhkkiaaGreatDoor
namespace B10
open Nw N8 Q6 F9
theorem end_stop : ∀ (n : Nat) (l : L8) (k e : Nat), l.length - k ≤ n → endAt l k = some e → e < l.length → begK l e = 2 := by
 intro n
 induction n with
 | zero =>
  intro l k e hk h he
  rw [endAt_out (by omega)] at h
  cases h; omega
 | succ n ih =>
  intro l k e hk h he
  by_cases hlt : k < l.length
  ·rcases begK_cases l k with hb | hb | hb
   ·rcases Bool.eq_false_or_eq_true (good (l.getD k 0)) with hg | hg
    ·rw [endAt_next hlt hb hg] at h
     exact ih l (k + 1) e (by omega) h he
    ·rw [endAt_raw hlt hb hg] at h; cases h
   ·rcases scanE_cases l k with hs | ⟨v, m, hs, -, hm, hkm, hml⟩
    ·rw [endAt_bad hlt hb hs] at h; cases h
    ·rw [endAt_quote hlt hb hs hm hkm] at h
     exact ih l m e (by omega) h he
   ·rw [endAt_mark hlt hb] at h
    cases h; exact hb
  ·rw [endAt_out (by omega)] at h
   cases h; omega
theorem getD_drop (l : L8) (a i : Nat) : (l.drop a).getD i 0 = l.getD (a + i) 0 := by
 rw [List.getD_eq_getElem?_getD, List.getD_eq_getElem?_getD, List.getElem?_drop]
theorem getD_out {l : L8} {k : Nat} (h : l.length ≤ k) : l.getD k 0 = 0 := by
 rw [List.getD_eq_getElem?_getD, List.getElem?_eq_none h]; rfl
theorem say_hyp {r x : L8} (h : sayL r = some x) (hx : hyp x = true) : r.getD 0 0 = 45 ∧ (r.length = 1 ∨ r.getD 1 0 = 32) := by
 unfold sayL at h
 cases he : endAt r 0 with
 | none => rw [he] at h; cases h
 | some e =>
  rw [he] at h
  injection h with h
  have hel := endAt_le _ r 0 e (Nat.le_refl _) he
  have htl := trimN_le r e
  have hxl : x.length = trimN r e := by rw [← h, List.length_take]; omega
  unfold hyp at hx
  rw [Bool.and_eq_true, Bool.or_eq_true] at hx
  obtain ⟨h1, h2⟩ := hx
  have h1 := of_decide_eq_true h1
  have hx0 : x.getD 0 0 = 45 := by
   cases x with
   | nil => exact absurd h1 (by decide)
   | cons c x => exact h1
  have hpos : 0 < trimN r e := by
   rcases Nat.eq_zero_or_pos (trimN r e) with h0 | h0
   ·rw [getD_out (by omega)] at hx0; exact absurd hx0 (by decide)
   ·exact h0
  have hr0 : r.getD 0 0 = 45 := by rw [← h, getD_take hpos] at hx0; exact hx0
  refine ⟨hr0, ?_⟩
  rcases h2 with h2 | h2
  ·have h2 := of_decide_eq_true h2
   have ht1 : trimN r e = 1 := by omega
   by_cases he1 : 1 < e
   ·exact .inr (trimN_space (by omega) he1)
   ·have he1 : e = 1 := by omega
    subst he1
    by_cases hl : 1 < r.length
    ·have hb := end_stop _ r 0 1 (Nat.le_refl _) he hl
     unfold begK at hb
     split at hb
     ·rename_i h3
      have h4 : prevB r 1 = 32 := h3.2
      unfold prevB at h4
      rw [if_neg (by decide)] at h4
      rw [show (1 - 1 : Nat) = 0 from rfl, hr0] at h4
      exact absurd h4 (by decide)
     ·split at hb
      ·exact absurd hb (by decide)
      ·exact absurd hb (by decide)
    ·exact .inl (by omega)
  ·have h2 := of_decide_eq_true h2
   right
   have h1t : 1 < trimN r e := by
    rcases Nat.lt_or_ge 1 (trimN r e) with g | g
    ·exact g
    ·rw [getD_out (by omega)] at h2; exact absurd h2 (by decide)
   rw [← h, getD_take h1t] at h2
   exact h2
theorem row_end : ∀ {l : L8}, rowN l < l.length → l.getD (rowN l) 0 = 10
 | [], h => absurd h (by simp)
 | c :: l, h => by
  by_cases hc : c = 10
  ·subst hc; rw [rowN_lf]; rfl
  ·rw [rowN_ne l hc] at h ⊢
   exact row_end (l := l) (by simpa using h)
theorem rowN_le : ∀ l : L8, rowN l ≤ l.length
 | [] => Nat.le_refl _
 | c :: l => by
  by_cases hc : c = 10
  ·subst hc; rw [rowN_lf]; exact Nat.zero_le _
  ·rw [rowN_ne l hc]; exact Nat.succ_le_succ (rowN_le l)
def loneP (l : L8) : Prop := ∀ i, l.getD i 0 = 45 → i + 1 < l.length ∧ l.getD (i + 1) 0 ≠ 32 ∧ l.getD (i + 1) 0 ≠ 10
theorem lone_ok {l : L8} (h : loneP l) (h0 : l ≠ []) : (∀ k x, oneL (l.take (rowN l)) = some (k, x) → hyp x = false) ∧ loneP (l.drop (rowN l + 1)) := by
 have hrl := rowN_le l
 refine ⟨fun k x hk => ?_, fun i hi => ?_⟩
 ·rw [Bool.eq_false_iff]
  intro hx
  unfold oneL at hk
  generalize hj : indN (l.take (rowN l)) = j at hk
  have hjl : j ≤ (l.take (rowN l)).length := by rw [← hj]; unfold indN; exact (List.takeWhile_sublist _).length_le
  rw [List.length_take] at hjl
  cases hs : sayL ((l.take (rowN l)).drop j) with
  | none => rw [hs] at hk; cases hk
  | some y =>
   rw [hs] at hk
   have hk : (if j = 0 ∧ marker y = true then none else some (j, y)) = some (k, x) := hk
   split at hk
   ·cases hk
   ·injection hk with hk
    injection hk with h1 h2
    subst h2
    obtain ⟨a1, a2⟩ := say_hyp hs hx
    rw [getD_drop, Nat.add_zero] at a1
    have hjr : j < rowN l := by
     rcases Nat.lt_or_ge j (rowN l) with g | g
     ·exact g
     ·rw [getD_out (by rw [List.length_take]; omega)] at a1; exact absurd a1 (by decide)
    rw [getD_take hjr] at a1
    obtain ⟨b1, b2, b3⟩ := h j a1
    rcases a2 with a2 | a2
    ·rw [List.length_drop, List.length_take] at a2
     have : j + 1 = rowN l := by omega
     rw [this] at b1 b3
     exact b3 (row_end b1)
    ·rw [getD_drop] at a2
     have hj1 : j + 1 < rowN l := by
      rcases Nat.lt_or_ge (j + 1) (rowN l) with g | g
      ·exact g
      ·rw [getD_out (by rw [List.length_take]; omega)] at a2; exact absurd a2 (by decide)
     rw [getD_take hj1] at a2
     exact b2 a2
 ·rw [getD_drop] at hi
  obtain ⟨b1, b2, b3⟩ := h _ hi
  rw [List.length_drop, getD_drop]
  exact ⟨by omega, b2, b3⟩
theorem spread_lines {t : Nat} (ht : 0 < t) {l : L8} (h : loneP l) : (splitL 0 [] l).2.2 = (splitL 0 [] (sprL t l)).2.2 ∧ Far t (splitL 0 [] l).1 (splitL 0 [] (sprL t l)).1 :=
 split_far ht loneP (fun _ h h0 => lone_ok h h0) _ l (Nat.le_refl _) h 0 0 [] [] .nil
theorem spread_par {t : Nat} (ht : 0 < t) {l : L8} (h : loneP l) (h1 : l.length ≤ 8192) (h2 : (sprL t l).length ≤ 8192) : (parB (sprL t l)).1 = (parB l).1 ∧ (parB (sprL t l)).2.2 = (parB l).2.2 := by
 obtain ⟨e, f⟩ := spread_lines ht h
 unfold parB fileL
 rw [if_neg (by omega), if_neg (by omega)]
 generalize splitL 0 [] l = A at e f
 generalize splitL 0 [] (sprL t l) = B at e f
 obtain ⟨ls, n, E⟩ := A
 obtain ⟨ms, n2, E2⟩ := B
 have e : E = E2 := e
 subst e
 have f : Far t ls ms := f
 show (if E ≠ 0 then _ else _ : Nd × Nat × Int).1 = (if E ≠ 0 then _ else _ : Nd × Nat × Int).1 ∧ (if E ≠ 0 then _ else _ : Nd × Nat × Int).2.2 = (if E ≠ 0 then _ else _ : Nd × Nat × Int).2.2
 by_cases hE : E ≠ 0
 ·rw [if_pos hE, if_pos hE]; exact ⟨rfl, rfl⟩
 ·rw [if_neg hE, if_neg hE]
  cases f with
  | nil => exact ⟨rfl, rfl⟩
  | @cons x y l m hi h2 hh hf =>
   have hs := blk_scale ht (.cons hi h2 hh hf)
   show (match blkB (y :: m) with | .bad no e => (nul, no, e) | .ok d k => (match (y :: m).drop k with | y :: _ => (nul, y.no, 3) | [] => if okT 2000 d then (d, 0, 0) else (nul, 0, 9)) : Nd × Nat × Int).1 = (match blkB (x :: l) with | .bad no e => (nul, no, e) | .ok d k => (match (x :: l).drop k with | y :: _ => (nul, y.no, 3) | [] => if okT 2000 d then (d, 0, 0) else (nul, 0, 9)) : Nd × Nat × Int).1 ∧ (match blkB (y :: m) with | .bad no e => (nul, no, e) | .ok d k => (match (y :: m).drop k with | y :: _ => (nul, y.no, 3) | [] => if okT 2000 d then (d, 0, 0) else (nul, 0, 9)) : Nd × Nat × Int).2.2 = (match blkB (x :: l) with | .bad no e => (nul, no, e) | .ok d k => (match (x :: l).drop k with | y :: _ => (nul, y.no, 3) | [] => if okT 2000 d then (d, 0, 0) else (nul, 0, 9)) : Nd × Nat × Int).2.2
   generalize blkB (x :: l) = R at hs
   generalize blkB (y :: m) = R2 at hs
   cases hs with
   | bad => exact ⟨rfl, rfl⟩
   | @ok d k =>
    have hd := Far.drop k (Far.cons hi h2 hh hf)
    show (match (y :: m).drop k with | y :: _ => (nul, y.no, 3) | [] => if okT 2000 d then (d, 0, 0) else (nul, 0, 9) : Nd × Nat × Int).1 = (match (x :: l).drop k with | y :: _ => (nul, y.no, 3) | [] => if okT 2000 d then (d, 0, 0) else (nul, 0, 9) : Nd × Nat × Int).1 ∧ (match (y :: m).drop k with | y :: _ => (nul, y.no, 3) | [] => if okT 2000 d then (d, 0, 0) else (nul, 0, 9) : Nd × Nat × Int).2.2 = (match (x :: l).drop k with | y :: _ => (nul, y.no, 3) | [] => if okT 2000 d then (d, 0, 0) else (nul, 0, 9) : Nd × Nat × Int).2.2
    generalize (x :: l).drop k = U at hd
    generalize (y :: m).drop k = U2 at hd
    cases hd with
    | nil => exact ⟨rfl, rfl⟩
    | cons => exact ⟨rfl, rfl⟩
end B10
end Go.Proofs.YtecglpocmhkkiaaGreatDoor
namespace Go.Proofs.YtecglpocmhkkiaaGreatDoor
namespace B10
open Nw N8 Q6 F9
def rstL (t : Nat) : L8 → L8
 | [] => []
 | c :: l => c :: (if c = 10 then sprL t l else rstL t l)
def tailX (t : Nat) (l : L8) : L8 := if rowN l < l.length then 10 :: sprL t (l.drop (rowN l + 1)) else []
theorem rst_row (t : Nat) : ∀ m : L8, rstL t m = m.take (rowN m) ++ tailX t m
 | [] => rfl
 | c :: m => by
  by_cases hc : c = 10
  ·subst hc
   unfold tailX
   rw [rowN_lf]
   show 10 :: (if (10 : UInt8) = 10 then sprL t m else rstL t m) = [] ++ (if 0 < m.length + 1 then 10 :: sprL t m else [])
   rw [if_pos rfl, if_pos (by omega)]
   rfl
  ·have ih := rst_row t m
   unfold tailX at ih ⊢
   rw [rowN_ne m hc]
   show c :: (if c = 10 then sprL t m else rstL t m) = (c :: m.take (rowN m)) ++ (if rowN m + 1 < m.length + 1 then 10 :: sprL t (m.drop (rowN m + 1)) else [])
   rw [if_neg hc, ih]
   by_cases hr : rowN m < m.length
   ·rw [if_pos hr, if_pos (by omega)]; rfl
   ·rw [if_neg hr, if_neg (by omega)]; rfl
theorem row_ind : ∀ l : L8, indN (l.take (rowN l)) = indN l ∧ rowN (l.drop (indN l)) + indN l = rowN l
 | [] => ⟨rfl, rfl⟩
 | c :: l => by
  by_cases hc : c = 32
  ·subst hc
   obtain ⟨h1, h2⟩ := row_ind l
   rw [rowN_ne l (by decide), indN_sp]
   refine ⟨?_, ?_⟩
   ·show indN (32 :: l.take (rowN l)) = _
    rw [indN_sp, h1]
   ·show rowN (l.drop (indN l)) + (indN l + 1) = _
    omega
  ·rw [indN_no l hc]
   refine ⟨?_, rfl⟩
   by_cases h10 : c = 10
   ·subst h10; rw [rowN_lf]; rfl
   ·rw [rowN_ne l h10]
    exact indN_no _ hc
theorem spr_two {t : Nat} {l : L8} (h : l ≠ []) : sprL t l = 10 :: 35 :: 10 :: (sps (t * indN l) ++ rstL t (l.drop (indN l))) := by
 obtain ⟨h1, h2⟩ := row_ind l
 rw [sprL_row h, h1, rst_row]
 have h3 : rowN l - indN l = rowN (l.drop (indN l)) := by omega
 have h4 : indN l ≤ l.length := by unfold indN; exact takeWhile_le _ _
 rw [List.drop_take, h3]
 congr 4
 unfold tailX
 rw [List.drop_drop, List.length_drop]
 by_cases hr : rowN l < l.length
 ·rw [if_pos hr, if_pos (by omega), show indN l + (rowN (l.drop (indN l)) + 1) = rowN l + 1 by omega]
 ·rw [if_neg hr, if_neg (by omega)]
theorem spr_len (t : Nat) : ∀ (n : Nat) (l : L8), l.length ≤ n → (sprL t l).length ≤ (t + 4) * l.length ∧ (rstL t l).length ≤ (t + 4) * l.length
 | 0, l, h => by
  obtain rfl : l = [] := List.length_eq_zero_iff.1 (by omega)
  rw [sprL_nil]
  exact ⟨Nat.zero_le _, Nat.zero_le _⟩
 | n + 1, [], h => by
  rw [sprL_nil]
  exact ⟨Nat.zero_le _, Nat.zero_le _⟩
 | n + 1, c :: l, h => by
  have hl : l.length ≤ n := by simp at h; omega
  obtain ⟨a1, a2⟩ := spr_len t n l hl
  have hr : (rstL t (c :: l)).length ≤ (t + 4) * l.length + 1 := by
   show (c :: (if c = 10 then sprL t l else rstL t l)).length ≤ _
   rw [List.length_cons]
   by_cases hc : c = 10
   ·rw [if_pos hc]; omega
   ·rw [if_neg hc]; omega
  have e1 : (t + 4) * (c :: l).length = (t + 4) * l.length + (t + 4) := by rw [List.length_cons, Nat.mul_add, Nat.mul_one]
  refine ⟨?_, by omega⟩
  rw [spr_two (by simp)]
  have hk : indN (c :: l) ≤ (c :: l).length := by unfold indN; exact takeWhile_le _ _
  simp only [List.length_cons, List.length_append, sps, List.length_replicate]
  by_cases h0 : indN (c :: l) = 0
  ·rw [h0, Nat.mul_zero, List.drop_zero]
   rw [List.length_cons] at e1
   omega
  ·obtain ⟨b1, b2⟩ := spr_len t n ((c :: l).drop (indN (c :: l))) (by rw [List.length_drop]; omega)
   rw [List.length_drop] at b2
   obtain ⟨k, hkk⟩ : ∃ k, indN (c :: l) = k := ⟨_, rfl⟩
   rw [hkk] at b2 hk h0 ⊢
   obtain ⟨m, hm⟩ : ∃ m, (c :: l).length = m := ⟨_, rfl⟩
   rw [show l.length + 1 = m from hm]
   rw [hm] at b2 hk
   have e2 : (t + 4) * (m - k) + (t + 4) * k = (t + 4) * m := by rw [← Nat.mul_add]; congr 1; omega
   have e3 : t * k + 4 * k = (t + 4) * k := by rw [Nat.add_mul]
   omega
theorem rst_cons (t : Nat) (c : UInt8) (l : L8) : rstL t (c :: l) = c :: (if c = 10 then sprL t l else rstL t l) := rfl
theorem rst_nil (t : Nat) : rstL t [] = [] := rfl
def toC (t : Nat) (b : Bool) (l : L8) : L8 := if b then sprL t l else rstL t l
theorem toC_next (t : Nat) (c : UInt8) (l : L8) : rstL t (c :: l) = c :: toC t (decide (c = 10)) l := by
 unfold toC
 by_cases hc : c = 10
 ·rw [rst_cons, if_pos hc, decide_eq_true hc, if_pos rfl]
 ·rw [rst_cons, if_neg hc, decide_eq_false hc, if_neg (by decide)]
theorem toC_nil (t : Nat) (b : Bool) : toC t b [] = [] := by
 unfold toC
 cases b
 ·rfl
 ·exact sprL_nil t
end B10
end Go.Proofs.YtecglpocmhkkiaaGreatDoor
