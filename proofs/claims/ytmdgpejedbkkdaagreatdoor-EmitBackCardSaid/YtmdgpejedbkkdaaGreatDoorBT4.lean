/- FloBack -/
import Derived.Test.YtmdgpejedbkkdaaGreatDoorBT3
set_option linter.unusedVariables false
set_option linter.unusedSimpArgs false
set_option maxRecDepth 100000
set_option maxHeartbeats 16000000
namespace Go.Proofs.YtmdgpejedbkkdaaGreatDoor
namespace F9
open Nw N8 Q6
theorem blk_cons (c : UInt8) (l : L8) : blk (c :: l) = if c = 32 then blk l + 1 else 0 := rfl
theorem blk_no {c : UInt8} {l : L8} (h : c ≠ 32) : blk (c :: l) = 0 := if_neg h
theorem blk_sp : ∀ (r : L8) (j : Nat), j < blk r → r.getD j 0 = 32
 | [], j, h => absurd h (Nat.not_lt_zero _)
 | c :: l, j, h => by
  rw [blk] at h
  by_cases hc : c = 32
  ·rw [if_pos hc] at h
   cases j with
   | zero => exact hc
   | succ j => exact blk_sp l j (by omega)
  ·rw [if_neg hc] at h; omega
theorem blk_take (r : L8) : ∀ b ∈ r.take (blk r), b = 32 := by
 intro b hb
 obtain ⟨j, hj, rfl⟩ := List.mem_iff_getElem.1 hb
 rw [List.length_take] at hj
 have := blk_sp r j (by omega)
 rw [List.getElem_take]
 rw [List.getD_eq_getElem?_getD, List.getElem?_eq_getElem (by omega)] at this
 exact this
def okR (r : L8) : Prop := r.drop (blk r) = [] ∨ has marks ((r.drop (blk r)).headD 0) = true
theorem okR_mark {c : UInt8} {l : L8} (hc : c ≠ 32) (h : has marks c = true) : okR (c :: l) := by
 unfold okR
 rw [blk_no hc]
 exact .inr h
theorem pln_ok : ∀ r : L8, okR r → pln r = blk r
 | [], _ => rfl
 | c :: l, h => by
  unfold okR at h
  rw [pln]
  by_cases hc : c = 32
  ·subst hc
   rw [blk_cons, if_pos rfl] at h ⊢
   have hs : stops 32 l = false := by unfold stops; simp [has, marks, isC]
   rw [hs, if_neg Bool.false_ne_true, pln_ok l h]
  ·rw [blk_no hc] at h ⊢
   rcases h with h | h
   ·cases h
   ·have hs : stops c l = true := by
     unfold stops
     rw [show has marks c = true from h]; rfl
    rw [hs, if_pos rfl]
theorem row_every {t : L8} (h : rowB t = true) : bad3 t = false ∧ (∀ i, i < t.length → okI plainF t i = true) ∧ ∀ i, i < t.length → has marks (t.getD i 0) = false := by
 unfold rowB at h
 rw [Bool.and_eq_true] at h
 obtain ⟨h1, h2⟩ := h
 unfold plainB at h1
 by_cases hb : bad3 t = true
 ·rw [if_pos hb] at h1; cases h1
 ·rw [if_neg hb] at h1
  refine ⟨by simpa using hb, every_iff.1 h1, fun i hi => ?_⟩
  have := every_iff.1 h2 i hi
  unfold okI rowF at this
  simpa using this
theorem row_ne {t : L8} (h : rowB t = true) : t ≠ [] := by
 rintro rfl
 have := (row_every h).1
 revert this; decide
theorem row_first {t : L8} (h : rowB t = true) : t.getD 0 0 ≠ 32 ∧ has firsts (t.getD 0 0) = false := by
 have hp : 0 < t.length := List.length_pos_iff.2 (row_ne h)
 have h1 := (row_every h).2.1 0 hp
 unfold okI at h1
 rw [show bef t 0 = 10 by simp [bef]] at h1
 unfold plainF at h1
 have hf : has firsts (t.getD 0 0) = false := by
  rw [Bool.eq_false_iff]; intro e
  rw [e] at h1
  revert h1; simp [isC]
 refine ⟨fun e => ?_, hf⟩
 rw [e] at h1
 revert h1; simp [isC, has, firsts]
theorem row_last {t : L8} (h : rowB t = true) : t.getD (t.length - 1) 0 ≠ 32 := by
 have hp : 0 < t.length := List.length_pos_iff.2 (row_ne h)
 have h1 := (row_every h).2.1 (t.length - 1) (by omega)
 unfold okI at h1
 rw [show aft t (t.length - 1) = 10 by unfold aft; rw [if_neg (by omega)]] at h1
 intro e
 rw [e] at h1
 unfold plainF at h1
 revert h1; simp [isC, has, firsts]
theorem row_colon {t : L8} (h : rowB t = true) {i : Nat} (hi : i < t.length) (hc : t.getD i 0 = 58) : i + 1 < t.length ∧ t.getD (i + 1) 0 ≠ 32 := by
 have h1 := (row_every h).2.1 i hi
 unfold okI at h1
 rw [hc] at h1
 unfold plainF at h1
 have h2 : loose (aft t i) = false := by
  rw [Bool.eq_false_iff]; intro e
  rw [e] at h1
  revert h1; simp [isC, has, firsts]
 unfold loose at h2
 rw [Bool.or_eq_false_iff] at h2
 unfold aft at h2
 by_cases hl : i + 1 < t.length
 ·rw [if_pos hl] at h2
  exact ⟨hl, fun e => by rw [e] at h2; exact absurd h2.2 (by decide)⟩
 ·rw [if_neg hl] at h2
  exact absurd h2.1 (by decide)
theorem row_go {t : L8} (h : rowB t = true) (r : L8) {i : Nat} (hi : i < t.length) : stops (t.getD i 0) (t.drop (i + 1) ++ r) = false := by
 unfold stops
 rw [(row_every h).2.2 i hi, Bool.false_or]
 by_cases hc : t.getD i 0 = 58
 ·obtain ⟨h1, h2⟩ := row_colon h hi hc
  rw [drop_cons h1, List.cons_append]
  have h3 := (row_every h).2.2 (i + 1) h1
  show (isC 58 (t.getD i 0) && (decide (t.getD (i + 1) 0 :: (t.drop (i + 1 + 1) ++ r) = []) || isC 32 (t.getD (i + 1) 0) || has marks (t.getD (i + 1) 0))) = false
  rw [h3, show isC 32 (t.getD (i + 1) 0) = false from decide_eq_false h2]
  simp
 ·rw [show isC 58 (t.getD i 0) = false from decide_eq_false hc]; rfl
theorem pln_in {t : L8} (h : rowB t = true) (r : L8) : ∀ (n i : Nat), i + n = t.length → pln (t.drop i ++ r) = n + pln r
 | 0, i, hi => by
  rw [List.drop_of_length_le (by omega), List.nil_append, Nat.zero_add]
 | n + 1, i, hi => by
  rw [drop_cons (show i < t.length by omega), List.cons_append, pln, row_go h r (by omega), if_neg Bool.false_ne_true, pln_in h r n (i + 1) (by omega)]
  omega
theorem pln_row {t : L8} (h : rowB t = true) (r : L8) : pln (t ++ r) = t.length + pln r := pln_in h r t.length 0 (Nat.zero_add _)
theorem trm_row {t : L8} (h : rowB t = true) (sp : L8) (hs : ∀ b ∈ sp, b = 32) : trm (t ++ sp) = t := by
 unfold trm
 rw [Lib.trimRightB_take (t ++ sp) 32 t.length (by simp) ?_ ?_, List.take_left]
 ·intro j b hj hb
  rw [List.getElem?_append_right hj] at hb
  exact hs b (List.mem_of_getElem? hb)
 ·intro b h0 hb
  rw [List.getElem?_append_left (by omega)] at hb
  have := row_last h
  rw [List.getD_eq_getElem?_getD, hb] at this
  exact this
theorem trm_null (sp : L8) (hs : ∀ b ∈ sp, b = 32) : trm ([110, 117, 108, 108] ++ sp) = [110, 117, 108, 108] := by
 unfold trm
 rw [Lib.trimRightB_take ([110, 117, 108, 108] ++ sp) 32 4 (by simp) ?_ ?_]
 ·rfl
 ·intro j b hj hb
  rw [List.getElem?_append_right hj] at hb
  exact hs b (List.mem_of_getElem? hb)
 ·intro b _ hb
  have : b = 108 := by simpa using hb.symm
  rw [this]; decide
theorem scn_dbl (t r : L8) : scnP (dblL t ++ r) = some (t, (dblL t).length) := by
 unfold scnP scanR
 have e : dblL t ++ r = 34 :: (escL t ++ 34 :: r) := by unfold dblL; simp
 rw [e, if_pos (show (34 :: (escL t ++ 34 :: r)).getD 0 0 = 34 from rfl)]
 unfold atD
 rw [show (34 :: (escL t ++ 34 :: r)).drop (0 + 1) = escL t ++ 34 :: r from rfl, scD_esc]
 unfold dblL
 simp [push]; omega
theorem wtx_first (t : L8) : ∃ c l, wtx t = c :: l ∧ c ≠ 32 ∧ c ≠ 91 ∧ c ≠ 123 ∧ c ≠ 93 ∧ c ≠ 125 ∧ (isQ c = !rowB t) := by
 unfold wtx
 by_cases h : rowB t = true
 ·rw [if_pos h]
  obtain ⟨h1, h2⟩ := row_first h
  cases t with
  | nil => exact absurd rfl (row_ne h)
  | cons c l =>
   have h2 : has firsts c = false := h2
   have h3 : c ∉ firsts := of_decide_eq_false h2
   have h4 : c ≠ 34 ∧ c ≠ 39 ∧ c ≠ 91 ∧ c ≠ 123 ∧ c ≠ 93 ∧ c ≠ 125 := by
    refine ⟨?_, ?_, ?_, ?_, ?_, ?_⟩ <;> (rintro rfl; exact h3 (by decide))
   refine ⟨c, l, rfl, h1, h4.2.2.1, h4.2.2.2.1, h4.2.2.2.2.1, h4.2.2.2.2.2, ?_⟩
   rw [h]
   unfold isQ
   rw [decide_eq_false h4.1, decide_eq_false h4.2.1]; rfl
 ·rw [if_neg h]
  have hf : rowB t = false := by simpa using h
  rw [hf]
  exact ⟨34, escL t ++ [34], rfl, by decide, by decide, by decide, by decide, by decide, by decide⟩
theorem key_back (k z : L8) : keyP (wtx k ++ 58 :: 32 :: z) = some (k, (wtx k).length + 1) := by
 obtain ⟨c, l, hw, -, -, -, -, -, hq⟩ := wtx_first k
 unfold keyP
 have hh : (wtx k ++ 58 :: 32 :: z).headD 0 = c := by rw [hw]; rfl
 rw [hh, hq]
 by_cases h : rowB k = true
 ·have hwk : wtx k = k := by unfold wtx; rw [if_pos h]
  rw [h, hwk]
  have hp : pln (k ++ 58 :: 32 :: z) = k.length := by
   rw [pln_row h, pln, show stops 58 (32 :: z) = true from by unfold stops; simp [isC], if_pos rfl, Nat.add_zero]
  rw [hp, List.take_left, List.drop_left, show trm k = k from by have := trm_row h [] (fun b hb => by cases hb); rwa [List.append_nil] at this, h]
  rfl
 ·have hf : rowB k = false := by simpa using h
  have hwk : wtx k = dblL k := by unfold wtx; rw [if_neg h]
  rw [hf, hwk, Bool.not_false, if_pos rfl, scn_dbl]
  show (if ((dblL k ++ 58 :: 32 :: z).drop ((dblL k).length + blk ((dblL k ++ 58 :: 32 :: z).drop (dblL k).length))).headD 0 = 58 then some (k, (dblL k).length + blk ((dblL k ++ 58 :: 32 :: z).drop (dblL k).length) + 1) else none) = _
  rw [List.drop_left, blk_no (by decide), Nat.add_zero, List.drop_left]
  rfl
def Back (d : Nd) (W r : L8) : Prop := ∃ m, valP (W ++ r) = some (d, m) ∧ m ≠ 0 ∧ m ≤ W.length + blk r ∧ m + blk ((W ++ r).drop m) = W.length + blk r
theorem back_end {d : Nd} {W r : L8} (h : valP (W ++ r) = some (d, W.length)) (h0 : W ≠ []) : Back d W r :=
 ⟨W.length, h, fun e => h0 (List.length_eq_zero_iff.1 e), by omega, by rw [List.drop_left]⟩
theorem back_all {d : Nd} {W r : L8} (hr : okR r) (h : valP (W ++ r) = some (d, W.length + blk r)) (h0 : W ≠ []) : Back d W r := by
 refine ⟨W.length + blk r, h, fun e => h0 (List.length_eq_zero_iff.1 (by omega)), Nat.le_refl _, ?_⟩
 have e : (W ++ r).drop (W.length + blk r) = r.drop (blk r) := by rw [← List.drop_drop, List.drop_left]
 have e2 : blk (r.drop (blk r)) = 0 := by
  rcases hr with h | h
  ·rw [h]; rfl
  ·cases hd : r.drop (blk r) with
   | nil => rfl
   | cons c l =>
    rw [hd] at h
    exact blk_no (fun e => by subst e; exact absurd h (by show ¬ has marks 32 = true; decide))
 rw [e, e2, Nat.add_zero]
theorem val_plain {c : UInt8} {t : L8} (h1 : c ≠ 91) (h2 : c ≠ 123) (h3 : isQ c = false) : valP (c :: t) = (sclP (trm ((c :: t).take (pln (c :: t))))).map fun d => (d, pln (c :: t)) := by
 rw [valP, if_neg h1, if_neg h2, h3, if_neg Bool.false_ne_true]
theorem val_quoted {c : UInt8} {t : L8} (h1 : c ≠ 91) (h2 : c ≠ 123) (h3 : isQ c = true) : valP (c :: t) = (scnP (c :: t)).map fun p => (txt p.1, p.2) := by
 rw [valP, if_neg h1, if_neg h2, h3, if_pos rfl]
theorem back_txt (t r : L8) (hr : okR r) : Back (txt t) (wtx t) r := by
 obtain ⟨c, l, hw, -, h91, h123, -, -, hq⟩ := wtx_first t
 have hne : wtx t ≠ [] := by rw [hw]; exact fun e => by cases e
 by_cases h : rowB t = true
 ·have hwk : wtx t = t := by unfold wtx; rw [if_pos h]
  refine back_all hr ?_ hne
  have hp : pln (t ++ r) = t.length + blk r := by rw [pln_row h, pln_ok r hr]
  have ht : trm ((t ++ r).take (t.length + blk r)) = t := by
   rw [List.take_length_add_append]
   exact trm_row h _ (blk_take r)
  rw [h] at hq
  have hv := val_plain (t := l ++ r) h91 h123 hq
  have e : c :: (l ++ r) = t ++ r := by rw [← hwk, hw]; rfl
  rw [e, hp, ht] at hv
  rw [hwk, hv]
  unfold sclP
  rw [(row_every h).1, if_neg Bool.false_ne_true, if_pos h]; rfl
 ·have hf : rowB t = false := by simpa using h
  have hwk : wtx t = dblL t := by unfold wtx; rw [if_neg h]
  refine back_end ?_ hne
  rw [hf] at hq
  have hv := val_quoted (t := l ++ r) h91 h123 hq
  have e : c :: (l ++ r) = dblL t ++ r := by rw [← hwk, hw]; rfl
  rw [e, scn_dbl] at hv
  rw [hwk, hv]; rfl
theorem back_null (r : L8) (hr : okR r) : Back nul [110, 117, 108, 108] r := by
 refine back_all hr ?_ (fun e => by cases e)
 have hp : pln ([110, 117, 108, 108] ++ r) = 4 + blk r := by
  have h1 : ∀ (c : UInt8) (l : L8), has marks c = false → isC 58 c = false → pln (c :: l) = pln l + 1 := by
   intro c l h1 h2
   rw [pln, show stops c l = false from by unfold stops; rw [h1, h2]; rfl, if_neg Bool.false_ne_true]
  show pln (110 :: 117 :: 108 :: 108 :: r) = _
  rw [h1 _ _ (by decide) (by decide), h1 _ _ (by decide) (by decide), h1 _ _ (by decide) (by decide), h1 _ _ (by decide) (by decide), pln_ok r hr]
  omega
 have ht : trm (([110, 117, 108, 108] ++ r).take (4 + blk r)) = [110, 117, 108, 108] := by
  have := List.take_length_add_append (l₁ := ([110, 117, 108, 108] : L8)) (l₂ := r) (blk r)
  rw [show ([110, 117, 108, 108] : L8).length = 4 from rfl] at this
  rw [this]
  exact trm_null _ (blk_take r)
 have hv := val_plain (c := 110) (t := [117, 108, 108] ++ r) (by decide) (by decide) (by decide)
 have e : (110 : UInt8) :: ([117, 108, 108] ++ r) = [110, 117, 108, 108] ++ r := rfl
 rw [e, hp, ht] at hv
 rw [hv]; rfl
theorem fine_in {k : Int} {t : L8} {ks : List L8} {ds : List Nd} (h : Fine (.mk k t ks ds)) : (0 ≤ k ∧ k ≤ 3) ∧ (k ≠ 1 → t = []) ∧ (k ≠ 3 → ks = []) ∧ (k < 2 → ds = []) ∧ ∀ d ∈ ds, Fine d := by
 cases h with
 | mk h0 h3 hf hk hd =>
  unfold formB at hf
  simp only [Bool.and_eq_true, Bool.not_eq_true', Bool.and_eq_false_iff, decide_eq_false_iff_not, Classical.not_not] at hf
  obtain ⟨⟨f1, f2⟩, f3⟩ := hf
  refine ⟨⟨h0, h3⟩, fun h => ?_, fun h => ?_, fun h => ?_, hd⟩
  ·rcases f1 with f1 | f1
   ·exact absurd f1 h
   ·exact List.length_eq_zero_iff.1 (by omega)
  ·rcases f2 with f2 | f2
   ·exact absurd f2 h
   ·exact List.length_eq_zero_iff.1 (by omega)
  ·rcases f3 with f3 | f3
   ·exact absurd h f3
   ·exact List.length_eq_zero_iff.1 (by omega)
theorem wrT_first (d : Nd) : ∃ c l, wrT d = c :: l ∧ c ≠ 32 ∧ c ≠ 93 ∧ c ≠ 125 := by
 cases d with
 | mk k t ks ds =>
  rw [wrT]
  split
  ·exact ⟨110, _, rfl, by decide, by decide, by decide⟩
  ·split
   ·obtain ⟨c, l, h1, h2, -, -, h5, h6, -⟩ := wtx_first t
    exact ⟨c, l, h1, h2, h5, h6⟩
   ·split
    ·exact ⟨123, _, rfl, by decide, by decide, by decide⟩
    ·exact ⟨91, _, rfl, by decide, by decide, by decide⟩
theorem back_step {d : Nd} {W r l : L8} (h : Back d W r) (hl : l.drop (blk l) = W ++ r) :
  ∃ m, valP (l.drop (blk l)) = some (d, m) ∧ m ≠ 0 ∧ blk l + m + blk (l.drop (blk l + m)) = blk l + (W.length + blk r) ∧ l.drop (blk l + m + blk (l.drop (blk l + m))) = r.drop (blk r) := by
 obtain ⟨m, h1, h2, h3, h4⟩ := h
 have e : l.drop (blk l + m) = (W ++ r).drop m := by rw [← List.drop_drop, hl]
 refine ⟨m, by rw [hl]; exact h1, h2, by rw [e]; omega, ?_⟩
 rw [e, show blk l + m + blk ((W ++ r).drop m) = blk l + (W.length + blk r) by omega, ← List.drop_drop, hl, ← List.drop_drop, List.drop_left]
theorem row_last1 {d : Nd} {l : L8} {acc : List Nd} {m n : Nat} {t : L8} (h : valP (l.drop (blk l)) = some (d, m)) (hm : m ≠ 0) (hn : blk l + m + blk (l.drop (blk l + m)) = n) (hd : l.drop n = 93 :: t) : rowP l acc = some (.mk 2 [] [] (acc ++ [d]), n + 1) := by
 subst hn
 rw [rowP, h]
 show (if m = 0 then none else _) = _
 rw [if_neg hm]
 split
 ·rename_i h9; rw [hd] at h9; cases h9
 ·rename_i c t9 h9
  rw [hd] at h9
  injection h9 with h9 h10
  rw [← h9, if_pos rfl]
theorem row_next {d : Nd} {l : L8} {acc : List Nd} {m n : Nat} {t : L8} (h : valP (l.drop (blk l)) = some (d, m)) (hm : m ≠ 0) (hn : blk l + m + blk (l.drop (blk l + m)) = n) (hd : l.drop n = 44 :: t) : rowP l acc = (rowP t (acc ++ [d])).map (bump (n + 1)) := by
 subst hn
 rw [rowP, h]
 show (if m = 0 then none else _) = _
 rw [if_neg hm]
 split
 ·rename_i h9; rw [hd] at h9; cases h9
 ·rename_i c t9 h9
  rw [hd] at h9
  injection h9 with h9 h10
  rw [← h9, if_neg (by decide), if_pos rfl, h10]
theorem row_back : ∀ (ds : List Nd) (d : Nd) (acc : List Nd) (l r : L8), (∀ e ∈ d :: ds, ∀ r, okR r → Back e (wrT e) r) → l.drop (blk l) = wrT d ++ (wrSt ds ++ 93 :: r) →
  rowP l acc = some (.mk 2 [] [] (acc ++ d :: ds), blk l + (wrT d ++ wrSt ds).length + 1)
 | [], d, acc, l, r, hb, hl => by
  have hr : okR (93 :: r) := okR_mark (by decide) (by decide)
  rw [wrSt, List.nil_append] at hl
  obtain ⟨m, h1, h2, h3, h4⟩ := back_step (hb d (List.mem_cons_self ..) _ hr) hl
  rw [h3] at h4
  rw [row_last1 h1 h2 h3 (by rw [h4, blk_no (by decide)]; rfl), wrSt, List.append_nil, blk_no (by decide)]
  congr 1
 | d2 :: ds, d, acc, l, r, hb, hl => by
  have e1 : wrSt (d2 :: ds) ++ 93 :: r = 44 :: 32 :: (wrT d2 ++ (wrSt ds ++ 93 :: r)) := by rw [wrSt]; simp
  rw [e1] at hl
  have hr : okR (44 :: 32 :: (wrT d2 ++ (wrSt ds ++ 93 :: r))) := okR_mark (by decide) (by decide)
  obtain ⟨m, h1, h2, h3, h4⟩ := back_step (hb d (List.mem_cons_self ..) _ hr) hl
  rw [h3] at h4
  obtain ⟨c, w, hw, hc, -, -⟩ := wrT_first d2
  have hbk : blk (32 :: (wrT d2 ++ (wrSt ds ++ 93 :: r))) = 1 := by rw [blk_cons, if_pos rfl, hw, List.cons_append, blk_no hc]
  have ih := row_back ds d2 (acc ++ [d]) (32 :: (wrT d2 ++ (wrSt ds ++ 93 :: r))) r (fun e he => hb e (List.mem_cons_of_mem _ he)) (by rw [hbk]; rfl)
  rw [row_next h1 h2 h3 (by rw [h4, blk_no (by decide)]; rfl), ih, hbk, wrSt, blk_no (by decide)]
  simp only [Option.map_some, bump, List.append_assoc, List.length_append, List.length_cons, List.cons_append, Nat.add_zero]
  congr 2
  omega
theorem prs_step {x : L8} {d : Nd} {l : L8} {ks : List L8} {ds : List Nd} {j a m n : Nat} {c : UInt8} {t : L8} (hk : keyP (l.drop (blk l)) = some (x, j)) (hx : x ∉ ks) (ha : blk l + j + blk (l.drop (blk l + j)) = a) (h : valP (l.drop a) = some (d, m)) (hn : a + m + blk (l.drop (a + m)) = n) (hd : l.drop n = c :: t) :
  prsP l ks ds = if c = 125 then some (.mk 3 [] (ks ++ [x]) (ds ++ [d]), n + 1) else if c = 44 then (prsP t (ks ++ [x]) (ds ++ [d])).map (bump (n + 1)) else none := by
 subst ha
 subst hn
 rw [prsP]
 split
 ·rename_i h9; rw [hk] at h9; cases h9
 ·rename_i x9 j9 h9
  rw [hk] at h9
  injection h9 with h9
  injection h9 with h9 h10
  subst h9; subst h10
  rw [if_neg hx, h]
  show (match _h : l.drop _ with | [] => none | c :: t => _) = _
  split
  ·rename_i h9; rw [hd] at h9; cases h9
  ·rename_i c9 t9 h9
   rw [hd] at h9
   injection h9 with h9 h10
   rw [← h9, h10]
theorem prs_back : ∀ (ks : List L8) (ds : List Nd) (x : L8) (d : Nd) (ak : List L8) (ad : List Nd) (l r : L8), ks.length = ds.length → Once (ak ++ x :: ks) → (∀ e ∈ d :: ds, ∀ r, okR r → Back e (wrT e) r) → l.drop (blk l) = wtx x ++ 58 :: 32 :: (wrT d ++ (wrMt ks ds ++ 125 :: r)) →
  prsP l ak ad = some (.mk 3 [] (ak ++ x :: ks) (ad ++ d :: ds), blk l + (wtx x ++ 58 :: 32 :: wrT d ++ wrMt ks ds).length + 1)
 | ks, ds, x, d, ak, ad, l, r, hkd, ho, hb, hl => by
  obtain ⟨c0, w0, hw0, hc0, -, -⟩ := wrT_first d
  have hk : keyP (l.drop (blk l)) = some (x, (wtx x).length + 1) := by rw [hl]; exact key_back x _
  have hx : x ∉ ak := fun hm => by
   obtain ⟨i, hi, e⟩ := List.mem_iff_getElem.1 hm
   refine ho i ak.length (by rw [List.length_append]; omega) (by rw [List.length_append, List.length_cons]; omega) hi ?_
   rw [List.getElem_append_left hi, List.getElem_append_right (Nat.le_refl _), e]
   simp
  have hl2 : l.drop (blk l + ((wtx x).length + 1)) = 32 :: (wrT d ++ (wrMt ks ds ++ 125 :: r)) := by
   rw [← List.drop_drop, hl, ← List.drop_drop, List.drop_left]; rfl
  have hb2 : blk (32 :: (wrT d ++ (wrMt ks ds ++ 125 :: r))) = 1 := by rw [blk_cons, if_pos rfl, hw0, List.cons_append, blk_no hc0]
  have ha : blk l + ((wtx x).length + 1) + blk (l.drop (blk l + ((wtx x).length + 1))) = blk l + (wtx x).length + 2 := by rw [hl2, hb2]; omega
  have hl3 : l.drop (blk l + (wtx x).length + 2) = wrT d ++ (wrMt ks ds ++ 125 :: r) := by
   rw [show blk l + (wtx x).length + 2 = blk l + ((wtx x).length + 1) + 1 by omega, ← List.drop_drop, hl2]; rfl
  have key : ∀ (r2 : L8), okR r2 → blk r2 = 0 → wrMt ks ds ++ 125 :: r = r2 → ∃ m, valP (l.drop (blk l + (wtx x).length + 2)) = some (d, m) ∧ blk l + (wtx x).length + 2 + m + blk (l.drop (blk l + (wtx x).length + 2 + m)) = blk l + (wtx x).length + 2 + (wrT d).length ∧ l.drop (blk l + (wtx x).length + 2 + (wrT d).length) = r2 := by
   intro r2 hr2 h0 e2
   rw [e2] at hl3
   obtain ⟨m, h1, -, -, h4⟩ := hb d (List.mem_cons_self ..) r2 hr2
   have e : l.drop (blk l + (wtx x).length + 2 + m) = (wrT d ++ r2).drop m := by rw [← List.drop_drop, hl3]
   refine ⟨m, by rw [hl3]; exact h1, by rw [e]; omega, ?_⟩
   rw [← List.drop_drop, hl3, List.drop_left]
  match ks, ds, hkd with
  | [], [], _ =>
   obtain ⟨m, h1, h2, h3⟩ := key (125 :: r) (okR_mark (by decide) (by decide)) (blk_no (by decide)) (by rw [wrMt]; rfl; intros; contradiction)
   rw [prs_step hk hx ha h1 h2 h3, if_pos rfl]
   have : wrMt [] [] = [] := by rw [wrMt]; intros; contradiction
   rw [this, List.append_nil]
   simp only [List.length_append, List.length_cons]
   congr 2
   omega
  | k2 :: ks, d2 :: ds, hkd =>
   have e1 : wrMt (k2 :: ks) (d2 :: ds) ++ 125 :: r = 44 :: 32 :: (wtx k2 ++ 58 :: 32 :: (wrT d2 ++ (wrMt ks ds ++ 125 :: r))) := by rw [wrMt]; simp
   obtain ⟨m, h1, h2, h3⟩ := key _ (okR_mark (by decide) (by decide)) (blk_no (by decide)) e1
   rw [prs_step hk hx ha h1 h2 h3, if_neg (by decide), if_pos rfl]
   obtain ⟨c, w, hw, hc, -⟩ := wtx_first k2
   have hbk : blk (32 :: (wtx k2 ++ 58 :: 32 :: (wrT d2 ++ (wrMt ks ds ++ 125 :: r)))) = 1 := by rw [blk_cons, if_pos rfl, hw, List.cons_append, blk_no hc]
   have ih := prs_back ks ds k2 d2 (ak ++ [x]) (ad ++ [d]) (32 :: (wtx k2 ++ 58 :: 32 :: (wrT d2 ++ (wrMt ks ds ++ 125 :: r)))) r (Nat.succ.inj hkd) (by rw [List.append_assoc]; exact ho) (fun e he => hb e (List.mem_cons_of_mem _ he)) (by rw [hbk]; rfl)
   rw [ih, hbk]
   simp only [Option.map_some, bump, List.append_assoc, List.singleton_append]
   congr 2
   rw [wrMt]
   simp only [List.length_append, List.length_cons]
   omega
end F9
end Go.Proofs.YtmdgpejedbkkdaaGreatDoor
