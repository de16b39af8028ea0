/- TmpFacts -/
import Derived.Test.YtkcilmmaggmmoaaDoorGT3
set_option linter.unusedVariables false
set_option linter.unusedSimpArgs false
set_option maxRecDepth 100000
set_option maxHeartbeats 16000000
namespace Go.Proofs.YtkcilmmaggmmoaaDoor
namespace Nw
end Nw
end Go.Proofs.YtkcilmmaggmmoaaDoor
namespace Go.Proofs.YtkcilmmaggmmoaaDoor
namespace T13
open Nw
theorem lenN_le : ∀ l : L8, lenN l ≤ l.length
 | [] => Nat.le_refl _
 | c :: t => by
  have := lenN_le t
  unfold lenN
  rw [List.length_cons]
  split <;> omega
theorem opN_cases (l : L8) : (opN l).1 = 1 ∧ (opN l).2 = 0 ∨ (2 ≤ (opN l).1 ∧ (opN l).1 ≤ 7 ∧ (opN l).2 = (markL (opN l).1).length ∧ (opN l).2 ≤ l.length) := by
 unfold opN
 split
 ·rename_i h
  refine .inr ⟨by decide, by decide, rfl, ?_⟩
  match l, h with
  | [], h => exact absurd h.1 (by decide)
  | [_], h => exact absurd (show (0 : UInt8) = 45 from h.2) (by decide)
  | _ :: _ :: t, _ => simp
 ·split
  ·rename_i h
   refine .inr ⟨by decide, by decide, rfl, ?_⟩
   match l, h with
   | [], h => exact absurd h.1 (by decide)
   | [_], h => exact absurd (show (0 : UInt8) = 63 from h.2) (by decide)
   | _ :: _ :: t, _ => simp
  ·split
   ·rename_i h
    refine .inr ⟨by decide, by decide, rfl, ?_⟩
    match l, h with
    | [], h => exact absurd h.1 (by decide)
    | [_], h => exact absurd (show (0 : UInt8) = 43 from h.2) (by decide)
    | _ :: _ :: t, _ => simp
   ·split
    ·rename_i h
     refine .inr ⟨by decide, by decide, rfl, ?_⟩
     match l, h with
     | [], h => exact absurd h (by decide)
     | _ :: t, _ => simp
    ·split
     ·rename_i h
      refine .inr ⟨by decide, by decide, rfl, ?_⟩
      match l, h with
      | [], h => exact absurd h (by decide)
      | _ :: t, _ => simp
     ·split
      ·rename_i h
       refine .inr ⟨by decide, by decide, rfl, ?_⟩
       match l, h with
       | [], h => exact absurd h (by decide)
       | _ :: t, _ => simp
      ·exact .inl ⟨rfl, rfl⟩
theorem stp_lit {d : Nat} {c b : UInt8} {t r : L8} (h : stp d c t = .lit b r) : (1 < d → b ≠ 125) ∧ ((b ≠ 36 ∧ r = t) ∨ (b = 36 ∧ r.length + 1 ≤ t.length)) := by
 unfold stp at h
 split at h
 ·cases h
 ·rename_i h1
  split at h
  ·rename_i h2
   cases h
   exact ⟨fun hd e => h1 ⟨e, hd⟩, .inl ⟨h2, rfl⟩⟩
  ·split at h
   ·rename_i h3
    cases h
    refine ⟨fun _ => by decide, .inr ⟨rfl, ?_⟩⟩
    match t, h3 with
    | [], h3 => exact absurd h3 (by decide)
    | _ :: t, _ => simp
   ·split at h
    ·cases h
    ·split at h
     ·split at h
      ·cases h
      ·split at h
       ·split at h <;> cases h
       ·cases h
     ·split at h <;> cases h
theorem stp_plain {d : Nat} {c : UInt8} {t n r : L8} (h : stp d c t = .plain n r) : c = 36 ∧ d ≤ 8 ∧ isN n = true ∧ n.length + r.length ≤ t.length := by
 unfold stp at h
 split at h
 ·cases h
 ·split at h
  ·cases h
  ·rename_i hc
   split at h
   ·cases h
   ·split at h
    ·cases h
    ·rename_i hd
     split at h
     ·split at h
      ·cases h
      ·rename_i hn
       split at h
       ·split at h
        ·cases h
         have hul : (t.drop 1).length = t.length - 1 := List.length_drop ..
         have h1 := lenN_le (t.drop 1)
         generalize t.drop 1 = u at hul h1 hn ⊢
         refine ⟨Classical.not_not.1 hc, by omega, by simpa using hn, ?_⟩
         rw [List.length_take, List.length_drop, List.length_drop]
         omega
        ·cases h
       ·cases h
     ·split at h
      ·cases h
      ·rename_i hn
       cases h
       have h1 := lenN_le t
       refine ⟨Classical.not_not.1 hc, by omega, by simpa using hn, ?_⟩
       rw [List.length_take, List.length_drop]
       omega
theorem stp_brc {d : Nat} {c : UInt8} {t n v : L8} {o : Int} (h : stp d c t = .brc n o v) : c = 36 ∧ d ≤ 8 ∧ isN n = true ∧ 2 ≤ o ∧ o ≤ 7 ∧ 1 + n.length + (markL o).length + v.length ≤ t.length := by
 unfold stp at h
 split at h
 ·cases h
 ·split at h
  ·cases h
  ·rename_i hc
   split at h
   ·cases h
   ·split at h
    ·cases h
    ·rename_i hd
     split at h
     ·rename_i h123
      split at h
      ·cases h
      ·rename_i hn
       split at h
       ·split at h <;> cases h
       ·rename_i ho
        cases h
        have h1 := lenN_le (t.drop 1)
        have ht : 1 ≤ t.length := by
         match t, h123 with
         | [], h => exact absurd h (by decide)
         | _ :: t, _ => simp
        have hul : (t.drop 1).length = t.length - 1 := List.length_drop ..
        generalize t.drop 1 = u at hul h1 hn ho ⊢
        rcases opN_cases (u.drop (lenN u)) with ⟨e, _⟩ | ⟨e1, e2, e3, e4⟩
        ·exact absurd e ho
        ·refine ⟨Classical.not_not.1 hc, by omega, by simpa using hn, e1, e2, ?_⟩
         rw [List.length_drop] at e4
         rw [← e3, List.length_take, List.length_drop, List.length_drop]
         omega
     ·split at h <;> cases h
theorem prs_rest : ∀ (f d : Nat) (done : List Pt) (lit l : L8) (ps : List Pt) (r : L8), prs f d done lit l = .ok ps r → r.length ≤ l.length
 | 0, _, _, _, _, _, _, h => by cases h
 | f + 1, d, done, lit, [], ps, r, h => by
  rw [prs] at h; cases h; exact Nat.le_refl _
 | f + 1, d, done, lit, c :: t, ps, r, h => by
  rw [prs] at h
  rw [List.length_cons]
  cases hs : stp d c t with
  | stop => rw [hs] at h; cases h; exact Nat.le_refl _
  | lit b u =>
   rw [hs] at h
   have := prs_rest f _ _ _ _ _ _ h
   have := (stp_lit hs).2
   rcases this with ⟨_, rfl⟩ | ⟨_, _⟩ <;> omega
  | bad e => rw [hs] at h; cases h
  | plain n u =>
   rw [hs] at h
   have := prs_rest f _ _ _ _ _ _ h
   have := (stp_plain hs).2.2.2
   omega
  | brc n o v =>
   rw [hs] at h
   simp only [] at h
   cases hp : prs f (d + 1) [] [] v with
   | err e => rw [hp] at h; cases h
   | ok sub rest =>
    rw [hp] at h
    simp only [] at h
    split at h
    ·have h1 := prs_rest f _ _ _ _ _ _ h
     have h2 := prs_rest f _ _ _ _ _ _ hp
     have h3 := (stp_brc hs).2.2.2.2.2
     rw [List.length_drop] at h1
     omega
    ·cases h
theorem prs_fuel : ∀ (f g d : Nat) (done : List Pt) (lit l : L8), l.length < f → l.length < g → prs f d done lit l = prs g d done lit l
 | 0, _, _, _, _, _, h, _ => absurd h (Nat.not_lt_zero _)
 | _ + 1, 0, _, _, _, _, _, h => absurd h (Nat.not_lt_zero _)
 | f + 1, g + 1, d, done, lit, [], _, _ => by rw [prs, prs]
 | f + 1, g + 1, d, done, lit, c :: t, hf, hg => by
  rw [List.length_cons] at hf hg
  rw [prs, prs]
  cases hs : stp d c t with
  | stop => rfl
  | lit b u =>
   simp only []
   have hu : u.length ≤ t.length := by rcases (stp_lit hs).2 with ⟨_, rfl⟩ | ⟨_, _⟩ <;> omega
   exact prs_fuel f g _ _ _ _ (by omega) (by omega)
  | bad e => rfl
  | plain n u =>
   simp only []
   have := (stp_plain hs).2.2.2
   exact prs_fuel f g _ _ _ _ (by omega) (by omega)
  | brc n o v =>
   simp only []
   have h3 := (stp_brc hs).2.2.2.2.2
   rw [prs_fuel f g (d + 1) [] [] v (by omega) (by omega)]
   cases hp : prs g (d + 1) [] [] v with
   | err e => rfl
   | ok sub rest =>
    simp only []
    have := prs_rest _ _ _ _ _ _ _ hp
    rw [prs_fuel f g d _ [] (rest.drop 1) (by rw [List.length_drop]; omega) (by rw [List.length_drop]; omega)]
theorem A_nil (d : Nat) (done : List Pt) (lit : L8) : prsA d done lit [] = .ok (fl done lit) [] := rfl
theorem A_stop {d : Nat} {c : UInt8} {t : L8} (h : stp d c t = .stop) (done : List Pt) (lit : L8) : prsA d done lit (c :: t) = .ok (fl done lit) (c :: t) := by
 unfold prsA; rw [List.length_cons, prs, h]
theorem A_lit {d : Nat} {c b : UInt8} {t r : L8} (h : stp d c t = .lit b r) (done : List Pt) (lit : L8) : prsA d done lit (c :: t) = prsA d done (lit ++ [b]) r := by
 unfold prsA; rw [List.length_cons, prs, h]
 have hu : r.length ≤ t.length := by rcases (stp_lit h).2 with ⟨_, rfl⟩ | ⟨_, _⟩ <;> omega
 exact prs_fuel _ _ _ _ _ _ (by omega) (by omega)
theorem A_bad {d : Nat} {c : UInt8} {t : L8} {e : Int} (h : stp d c t = .bad e) (done : List Pt) (lit : L8) : prsA d done lit (c :: t) = .err e := by
 unfold prsA; rw [List.length_cons, prs, h]
theorem A_plain {d : Nat} {c : UInt8} {t n r : L8} (h : stp d c t = .plain n r) (done : List Pt) (lit : L8) : prsA d done lit (c :: t) = prsA d (fl done lit ++ [.mk n [] 1 []]) [] r := by
 unfold prsA; rw [List.length_cons, prs, h]
 have := (stp_plain h).2.2.2
 exact prs_fuel _ _ _ _ _ _ (by omega) (by omega)
theorem A_brc {d : Nat} {c : UInt8} {t n v : L8} {o : Int} (h : stp d c t = .brc n o v) (done : List Pt) (lit : L8) : prsA d done lit (c :: t) = match prsA (d + 1) [] [] v with
  | .err e => .err e
  | .ok sub rest => if rest.getD 0 0 = 125 then prsA d (fl done lit ++ [.mk n [] o sub]) [] (rest.drop 1) else .err 3 := by
 unfold prsA; rw [List.length_cons, prs, h]
 simp only []
 have h3 := (stp_brc h).2.2.2.2.2
 rw [prs_fuel (t.length + 1) (v.length + 1) (d + 1) [] [] v (by omega) (by omega)]
 cases hp : prs (v.length + 1) (d + 1) [] [] v with
 | err e => rfl
 | ok sub rest =>
  simp only []
  have := prs_rest _ _ _ _ _ _ _ hp
  rw [prs_fuel (t.length + 1) ((rest.drop 1).length + 1) d _ [] (rest.drop 1) (by rw [List.length_drop]; omega) (by omega)]
theorem lenN_app : ∀ {n : L8} (r : L8), (∀ c ∈ n, v2 c = true) → (∀ c t, r = c :: t → v2 c = false) → lenN (n ++ r) = n.length
 | [], [], _, _ => rfl
 | [], c :: t, _, h => by
  show (if v2 c then lenN t + 1 else 0) = 0
  rw [h c t rfl]; rfl
 | c :: n, r, h1, h2 => by
  show (if v2 c then lenN (n ++ r) + 1 else 0) = _
  rw [h1 c List.mem_cons_self, if_pos rfl, lenN_app r (fun d hd => h1 d (List.mem_cons_of_mem _ hd)) h2]; rfl
theorem v1_v2' {c : UInt8} (h : v1 c = true) : v2 c = true := by unfold v2; rw [h]; rfl
theorem isN_v2 {k : L8} (h : isN k = true) : 0 < k.length ∧ k.length ≤ 24 ∧ ∀ c ∈ k, v2 c = true := by
 have h1 : 0 < k.length ∧ k.length ≤ 24 ∧ Nw.good v1 v2 k k.length := of_decide_eq_true h
 refine ⟨h1.1, h1.2.1, fun c hc => ?_⟩
 obtain ⟨j, hj, rfl⟩ := List.getElem_of_mem hc
 have := h1.2.2 j hj
 rw [List.getD_eq_getElem?_getD, List.getElem?_eq_getElem hj] at this
 change okAt v1 v2 j k[j] = true at this
 unfold okAt at this
 split at this
 ·exact v1_v2' this
 ·exact this
theorem prs_esc : ∀ (t : L8) (d : Nat) (done : List Pt) (lit r : L8), (1 < d → (125 : UInt8) ∉ t) → prsA d done lit (escD t ++ r) = prsA d done (lit ++ t) r
 | [], d, done, lit, r, _ => by rw [List.append_nil]; rfl
 | c :: t, d, done, lit, r, h => by
  have ht : 1 < d → (125 : UInt8) ∉ t := fun hd e => h hd (List.mem_cons_of_mem _ e)
  have e2 : lit ++ c :: t = (lit ++ [c]) ++ t := by simp
  unfold escD
  by_cases hc : c = 36
  ·rw [if_pos hc]
   have hs : stp d 36 (36 :: escD t ++ r) = .lit 36 (escD t ++ r) := by
    unfold stp
    rw [if_neg (by rintro ⟨e, _⟩; exact absurd e (by decide)), if_neg (by decide), if_pos (show (36 :: escD t ++ r : L8).getD 0 0 = 36 from rfl)]; rfl
   rw [show (36 :: 36 :: escD t) ++ r = 36 :: (36 :: escD t ++ r) from rfl, A_lit hs, prs_esc t d done _ r ht, e2, hc]
  ·rw [if_neg hc]
   have hs : stp d c (escD t ++ r) = .lit c (escD t ++ r) := by
    unfold stp
    rw [if_neg (by rintro ⟨e, hd⟩; exact h hd (by rw [e]; exact List.mem_cons_self)), if_pos hc]
   rw [show (c :: escD t) ++ r = c :: (escD t ++ r) from rfl, A_lit hs, prs_esc t d done _ r ht, e2]
theorem mark_head {o : Int} (h1 : 1 ≤ o) (h2 : o ≤ 7) (x : L8) (hx : o = 1 → ∃ t, x = 125 :: t) : ∀ c t, markL o ++ x = c :: t → v2 c = false := by
 have ho : o = 1 ∨ o = 2 ∨ o = 3 ∨ o = 4 ∨ o = 5 ∨ o = 6 ∨ o = 7 := by omega
 rcases ho with rfl | rfl | rfl | rfl | rfl | rfl | rfl
 ·obtain ⟨t0, rfl⟩ := hx rfl
  rintro c t e
  cases e
  decide
 all_goals
  rintro c t e
  cases e
  decide
theorem mark_op {o : Int} (h1 : 2 ≤ o) (h2 : o ≤ 7) (x : L8) : opN (markL o ++ x) = (o, (markL o).length) := by
 have ho : o = 2 ∨ o = 3 ∨ o = 4 ∨ o = 5 ∨ o = 6 ∨ o = 7 := by omega
 rcases ho with rfl | rfl | rfl | rfl | rfl | rfl <;> rfl
theorem stp_var {d : Nat} {n r : L8} (hd : d ≤ 8) (hn : isN n = true) : stp d 36 (123 :: (n ++ 125 :: r)) = .plain n r := by
 have hl : lenN (n ++ 125 :: r) = n.length := lenN_app _ (isN_v2 hn).2.2 (by rintro c t e; cases e; decide)
 have g1 : ¬ (123 :: (n ++ 125 :: r) : L8).getD 0 0 = 36 := fun e => absurd (show (123 : UInt8) = 36 from e) (by decide)
 have g2 : (123 :: (n ++ 125 :: r) : L8).getD 0 0 = 123 := rfl
 unfold stp
 rw [if_neg (by rintro ⟨e, _⟩; exact absurd e (by decide)), if_neg (by decide), if_neg g1, if_neg (by omega), if_pos g2]
 have e1 : (123 :: (n ++ 125 :: r) : L8).drop 1 = n ++ 125 :: r := rfl
 have g3 : (opN (125 :: r : L8)).1 = 1 := rfl
 have g4 : (125 :: r : L8).getD 0 0 = 125 := rfl
 rw [e1, hl, List.take_left, List.drop_left, if_neg (by rw [hn]; decide), if_pos g3, if_pos g4]
 rfl
theorem stp_opr {d : Nat} {n x : L8} {o : Int} (hd : d ≤ 8) (hn : isN n = true) (h1 : 2 ≤ o) (h2 : o ≤ 7) : stp d 36 (123 :: (n ++ (markL o ++ x))) = .brc n o x := by
 have hl : lenN (n ++ (markL o ++ x)) = n.length := lenN_app _ (isN_v2 hn).2.2 (mark_head (by omega) h2 x (fun e => by omega))
 have g1 : ¬ (123 :: (n ++ (markL o ++ x)) : L8).getD 0 0 = 36 := fun e => absurd (show (123 : UInt8) = 36 from e) (by decide)
 have g2 : (123 :: (n ++ (markL o ++ x)) : L8).getD 0 0 = 123 := rfl
 unfold stp
 rw [if_neg (by rintro ⟨e, _⟩; exact absurd e (by decide)), if_neg (by decide), if_neg g1, if_neg (by omega), if_pos g2]
 have e1 : (123 :: (n ++ (markL o ++ x)) : L8).drop 1 = n ++ (markL o ++ x) := rfl
 rw [e1, hl, List.take_left, List.drop_left, if_neg (by rw [hn]; decide), mark_op h1 h2, if_neg (by show ¬ o = 1; omega)]
 show St.brc n o ((markL o ++ x).drop (markL o).length) = _
 rw [List.drop_left]
theorem absb_app : ∀ (a b : List Pt) (done : List Pt) (lit : L8), absb done lit (a ++ b) = absb (absb done lit a).1 (absb done lit a).2 b
 | [], b, done, lit => rfl
 | p :: a, b, done, lit => by
  rw [List.cons_append, absb, absb]
  split
  ·exact absb_app a b _ _
  ·exact absb_app a b _ _
mutual
theorem prsP_txt : ∀ (p : Pt) (d : Nat) (done : List Pt) (lit r : L8), 1 ≤ d → WfP d p → prsA d done lit (txtP p ++ r) = prsA d (absb done lit [p]).1 (absb done lit [p]).2 r
 | .mk n t o s, d, done, lit, r, hd0, h => by
  rw [WfP] at h
  rcases h with ⟨rfl, rfl, ht, rfl, h5⟩ | ⟨rfl, hn, rfl, rfl, hd⟩ | ⟨h1, h2, hn, rfl, hd, hw, hcalm⟩
  ·rw [txtP, if_pos rfl, prs_esc t d done lit r h5]
   rfl
  ·have e : txtP (.mk n [] 1 []) ++ r = 36 :: 123 :: (n ++ 125 :: r) := by
    rw [txtP, if_neg (by decide)]
    simp [markL]
   rw [e, A_plain (stp_var hd hn)]
   rfl
  ·have e : txtP (.mk n [] o s) ++ r = 36 :: 123 :: (n ++ (markL o ++ (txtL s ++ 125 :: r))) := by
    rw [txtP, if_neg (by omega), if_pos (by omega)]
    simp
   rw [e, A_brc (stp_opr hd hn h1 h2), prsL_txt s (d + 1) [] [] (125 :: r) (by omega) hw, A_stop (by unfold stp; rw [if_pos ⟨rfl, by omega⟩])]
   have e2 : fl (absb [] [] s).1 (absb [] [] s).2 = s := hcalm
   rw [e2]
   show (if (125 : UInt8) = 125 then prsA d (fl done lit ++ [.mk n [] o s]) [] r else _) = _
   rw [if_pos rfl]
   have e3 : absb done lit [Pt.mk n [] o s] = (fl done lit ++ [.mk n [] o s], []) := by
    rw [absb, if_neg (by show ¬ o = 0; omega)]; rfl
   rw [e3]
theorem prsL_txt : ∀ (ps : List Pt) (d : Nat) (done : List Pt) (lit r : L8), 1 ≤ d → WfL d ps → prsA d done lit (txtL ps ++ r) = prsA d (absb done lit ps).1 (absb done lit ps).2 r
 | [], d, done, lit, r, _, _ => by rw [txtL]; rfl
 | p :: ps, d, done, lit, r, hd0, h => by
  rw [WfL] at h
  rw [txtL, List.append_assoc, prsP_txt p d done lit _ hd0 h.1, prsL_txt ps d _ _ r hd0 h.2, ← absb_app]
  rfl
end
theorem txtL_app : ∀ (a b : List Pt), txtL (a ++ b) = txtL a ++ txtL b
 | [], b => by rw [txtL]; rfl
 | p :: a, b => by rw [List.cons_append, txtL, txtL, txtL_app a b, List.append_assoc]
theorem escD_app : ∀ (a b : L8), escD (a ++ b) = escD a ++ escD b
 | [], b => rfl
 | c :: a, b => by
  rw [List.cons_append, escD, escD, escD_app a b]
  split <;> rfl
theorem txt_fl (done : List Pt) (lit : L8) : txtL (fl done lit) = txtL done ++ escD lit := by
 unfold fl
 split
 ·rename_i h; rw [h]; simp [escD]
 ·rw [txtL_app, txtL, txtL, List.append_nil]
  unfold litP
  rw [txtP, if_pos rfl]
theorem txt_absb : ∀ (d : Nat) (ps : List Pt) (done : List Pt) (lit : L8), WfL d ps → txtL (fl (absb done lit ps).1 (absb done lit ps).2) = txtL (fl done lit) ++ txtL ps
 | d, [], done, lit, _ => by rw [txtL, List.append_nil]; rfl
 | d, .mk n t o s :: ps, done, lit, h => by
  rw [WfL] at h
  rw [absb, txtL]
  by_cases ho : o = 0
  ·subst ho
   rw [if_pos (show (Pt.mk n t 0 s).op = 0 from rfl), txt_absb d ps _ _ h.2, txt_fl, txt_fl, txtP, if_pos rfl]
   show txtL done ++ escD (lit ++ t) ++ txtL ps = _
   rw [escD_app]
   simp
  ·rw [if_neg (show ¬ (Pt.mk n t o s).op = 0 from ho), txt_absb d ps _ _ h.2]
   show txtL (fl (fl done lit ++ [Pt.mk n t o s]) []) ++ _ = _
   rw [txt_fl, txtL_app, txtL, txtL]
   simp [escD]
theorem both_txt {a b : List Pt} (ha : WfL 1 a) (hb : WfL 1 b) : ∃ R, prsT (txtL a ++ txtL b) = .ok R [] ∧ txtL R = txtL a ++ txtL b := by
 refine ⟨fl (absb (absb [] [] a).1 (absb [] [] a).2 b).1 (absb (absb [] [] a).1 (absb [] [] a).2 b).2, ?_, ?_⟩
 ·unfold prsT
  have := prsL_txt b 1 (absb [] [] a).1 (absb [] [] a).2 [] (Nat.le_refl _) hb
  rw [List.append_nil] at this
  rw [prsL_txt a 1 [] [] _ (Nat.le_refl _) ha, this, A_nil]
 ·rw [txt_absb 1 b _ _ hb, txt_absb 1 a _ _ ha]; rfl
end T13
end Go.Proofs.YtkcilmmaggmmoaaDoor
