/- TmpFacts, TmpSuf -/
import Derived.Test.YtkcilmmaggmmoaaGreatDoorNT5
set_option linter.unusedVariables false
set_option linter.unusedSimpArgs false
set_option maxRecDepth 100000
set_option maxHeartbeats 16000000
namespace Go.Proofs.YtkcilmmaggmmoaaGreatDoor
namespace Nw
end Nw
end Go.Proofs.YtkcilmmaggmmoaaGreatDoor
namespace Go.Proofs.YtkcilmmaggmmoaaGreatDoor
namespace T13
open Nw
theorem lenN_le : ∀ l : L8, lenN l ≤ l.length
 | [] => Nat.le_refl _
 | c :: t => by
  have := lenN_le t
  unfold lenN
  rw [List.length_cons]
  split <;> omega
theorem opN_cases (l : L8) : (opN l).1 = 1 ∧ (opN l).2 = 0 ∨ (2 ≤ (opN l).1 ∧ (opN l).1 ≤ 7 ∧ (opN l).2 = (markL (opN l).1).length ∧ (opN l).2 ≤ l.length) := by
 unfold opN
 split
 ·rename_i h
  refine .inr ⟨by decide, by decide, rfl, ?_⟩
  match l, h with
  | [], h => exact absurd h.1 (by decide)
  | [_], h => exact absurd (show (0 : UInt8) = 45 from h.2) (by decide)
  | _ :: _ :: t, _ => simp
 ·split
  ·rename_i h
   refine .inr ⟨by decide, by decide, rfl, ?_⟩
   match l, h with
   | [], h => exact absurd h.1 (by decide)
   | [_], h => exact absurd (show (0 : UInt8) = 63 from h.2) (by decide)
   | _ :: _ :: t, _ => simp
  ·split
   ·rename_i h
    refine .inr ⟨by decide, by decide, rfl, ?_⟩
    match l, h with
    | [], h => exact absurd h.1 (by decide)
    | [_], h => exact absurd (show (0 : UInt8) = 43 from h.2) (by decide)
    | _ :: _ :: t, _ => simp
   ·split
    ·rename_i h
     refine .inr ⟨by decide, by decide, rfl, ?_⟩
     match l, h with
     | [], h => exact absurd h (by decide)
     | _ :: t, _ => simp
    ·split
     ·rename_i h
      refine .inr ⟨by decide, by decide, rfl, ?_⟩
      match l, h with
      | [], h => exact absurd h (by decide)
      | _ :: t, _ => simp
     ·split
      ·rename_i h
       refine .inr ⟨by decide, by decide, rfl, ?_⟩
       match l, h with
       | [], h => exact absurd h (by decide)
       | _ :: t, _ => simp
      ·exact .inl ⟨rfl, rfl⟩
theorem stp_lit {d : Nat} {c b : UInt8} {t r : L8} (h : stp d c t = .lit b r) : (1 < d → b ≠ 125) ∧ ((b ≠ 36 ∧ r = t) ∨ (b = 36 ∧ r.length + 1 ≤ t.length)) := by
 unfold stp at h
 split at h
 ·cases h
 ·rename_i h1
  split at h
  ·rename_i h2
   cases h
   exact ⟨fun hd e => h1 ⟨e, hd⟩, .inl ⟨h2, rfl⟩⟩
  ·split at h
   ·rename_i h3
    cases h
    refine ⟨fun _ => by decide, .inr ⟨rfl, ?_⟩⟩
    match t, h3 with
    | [], h3 => exact absurd h3 (by decide)
    | _ :: t, _ => simp
   ·split at h
    ·cases h
    ·split at h
     ·split at h
      ·cases h
      ·split at h
       ·split at h <;> cases h
       ·cases h
     ·split at h <;> cases h
theorem stp_plain {d : Nat} {c : UInt8} {t n r : L8} (h : stp d c t = .plain n r) : c = 36 ∧ d ≤ 8 ∧ isN n = true ∧ n.length + r.length ≤ t.length := by
 unfold stp at h
 split at h
 ·cases h
 ·split at h
  ·cases h
  ·rename_i hc
   split at h
   ·cases h
   ·split at h
    ·cases h
    ·rename_i hd
     split at h
     ·split at h
      ·cases h
      ·rename_i hn
       split at h
       ·split at h
        ·cases h
         have hul : (t.drop 1).length = t.length - 1 := List.length_drop ..
         have h1 := lenN_le (t.drop 1)
         generalize t.drop 1 = u at hul h1 hn ⊢
         refine ⟨Classical.not_not.1 hc, by omega, by simpa using hn, ?_⟩
         rw [List.length_take, List.length_drop, List.length_drop]
         omega
        ·cases h
       ·cases h
     ·split at h
      ·cases h
      ·rename_i hn
       cases h
       have h1 := lenN_le t
       refine ⟨Classical.not_not.1 hc, by omega, by simpa using hn, ?_⟩
       rw [List.length_take, List.length_drop]
       omega
theorem stp_brc {d : Nat} {c : UInt8} {t n v : L8} {o : Int} (h : stp d c t = .brc n o v) : c = 36 ∧ d ≤ 8 ∧ isN n = true ∧ 2 ≤ o ∧ o ≤ 7 ∧ 1 + n.length + (markL o).length + v.length ≤ t.length := by
 unfold stp at h
 split at h
 ·cases h
 ·split at h
  ·cases h
  ·rename_i hc
   split at h
   ·cases h
   ·split at h
    ·cases h
    ·rename_i hd
     split at h
     ·rename_i h123
      split at h
      ·cases h
      ·rename_i hn
       split at h
       ·split at h <;> cases h
       ·rename_i ho
        cases h
        have h1 := lenN_le (t.drop 1)
        have ht : 1 ≤ t.length := by
         match t, h123 with
         | [], h => exact absurd h (by decide)
         | _ :: t, _ => simp
        have hul : (t.drop 1).length = t.length - 1 := List.length_drop ..
        generalize t.drop 1 = u at hul h1 hn ho ⊢
        rcases opN_cases (u.drop (lenN u)) with ⟨e, _⟩ | ⟨e1, e2, e3, e4⟩
        ·exact absurd e ho
        ·refine ⟨Classical.not_not.1 hc, by omega, by simpa using hn, e1, e2, ?_⟩
         rw [List.length_drop] at e4
         rw [← e3, List.length_take, List.length_drop, List.length_drop]
         omega
     ·split at h <;> cases h
theorem prs_rest : ∀ (f d : Nat) (done : List Pt) (lit l : L8) (ps : List Pt) (r : L8), prs f d done lit l = .ok ps r → r.length ≤ l.length
 | 0, _, _, _, _, _, _, h => by cases h
 | f + 1, d, done, lit, [], ps, r, h => by
  rw [prs] at h; cases h; exact Nat.le_refl _
 | f + 1, d, done, lit, c :: t, ps, r, h => by
  rw [prs] at h
  rw [List.length_cons]
  cases hs : stp d c t with
  | stop => rw [hs] at h; cases h; exact Nat.le_refl _
  | lit b u =>
   rw [hs] at h
   have := prs_rest f _ _ _ _ _ _ h
   have := (stp_lit hs).2
   rcases this with ⟨_, rfl⟩ | ⟨_, _⟩ <;> omega
  | bad e => rw [hs] at h; cases h
  | plain n u =>
   rw [hs] at h
   have := prs_rest f _ _ _ _ _ _ h
   have := (stp_plain hs).2.2.2
   omega
  | brc n o v =>
   rw [hs] at h
   simp only [] at h
   cases hp : prs f (d + 1) [] [] v with
   | err e => rw [hp] at h; cases h
   | ok sub rest =>
    rw [hp] at h
    simp only [] at h
    split at h
    ·have h1 := prs_rest f _ _ _ _ _ _ h
     have h2 := prs_rest f _ _ _ _ _ _ hp
     have h3 := (stp_brc hs).2.2.2.2.2
     rw [List.length_drop] at h1
     omega
    ·cases h
theorem prs_fuel : ∀ (f g d : Nat) (done : List Pt) (lit l : L8), l.length < f → l.length < g → prs f d done lit l = prs g d done lit l
 | 0, _, _, _, _, _, h, _ => absurd h (Nat.not_lt_zero _)
 | _ + 1, 0, _, _, _, _, _, h => absurd h (Nat.not_lt_zero _)
 | f + 1, g + 1, d, done, lit, [], _, _ => by rw [prs, prs]
 | f + 1, g + 1, d, done, lit, c :: t, hf, hg => by
  rw [List.length_cons] at hf hg
  rw [prs, prs]
  cases hs : stp d c t with
  | stop => rfl
  | lit b u =>
   simp only []
   have hu : u.length ≤ t.length := by rcases (stp_lit hs).2 with ⟨_, rfl⟩ | ⟨_, _⟩ <;> omega
   exact prs_fuel f g _ _ _ _ (by omega) (by omega)
  | bad e => rfl
  | plain n u =>
   simp only []
   have := (stp_plain hs).2.2.2
   exact prs_fuel f g _ _ _ _ (by omega) (by omega)
  | brc n o v =>
   simp only []
   have h3 := (stp_brc hs).2.2.2.2.2
   rw [prs_fuel f g (d + 1) [] [] v (by omega) (by omega)]
   cases hp : prs g (d + 1) [] [] v with
   | err e => rfl
   | ok sub rest =>
    simp only []
    have := prs_rest _ _ _ _ _ _ _ hp
    rw [prs_fuel f g d _ [] (rest.drop 1) (by rw [List.length_drop]; omega) (by rw [List.length_drop]; omega)]
theorem A_nil (d : Nat) (done : List Pt) (lit : L8) : prsA d done lit [] = .ok (fl done lit) [] := rfl
theorem A_stop {d : Nat} {c : UInt8} {t : L8} (h : stp d c t = .stop) (done : List Pt) (lit : L8) : prsA d done lit (c :: t) = .ok (fl done lit) (c :: t) := by
 unfold prsA; rw [List.length_cons, prs, h]
theorem A_lit {d : Nat} {c b : UInt8} {t r : L8} (h : stp d c t = .lit b r) (done : List Pt) (lit : L8) : prsA d done lit (c :: t) = prsA d done (lit ++ [b]) r := by
 unfold prsA; rw [List.length_cons, prs, h]
 have hu : r.length ≤ t.length := by rcases (stp_lit h).2 with ⟨_, rfl⟩ | ⟨_, _⟩ <;> omega
 exact prs_fuel _ _ _ _ _ _ (by omega) (by omega)
theorem A_bad {d : Nat} {c : UInt8} {t : L8} {e : Int} (h : stp d c t = .bad e) (done : List Pt) (lit : L8) : prsA d done lit (c :: t) = .err e := by
 unfold prsA; rw [List.length_cons, prs, h]
theorem A_plain {d : Nat} {c : UInt8} {t n r : L8} (h : stp d c t = .plain n r) (done : List Pt) (lit : L8) : prsA d done lit (c :: t) = prsA d (fl done lit ++ [.mk n [] 1 []]) [] r := by
 unfold prsA; rw [List.length_cons, prs, h]
 have := (stp_plain h).2.2.2
 exact prs_fuel _ _ _ _ _ _ (by omega) (by omega)
theorem A_brc {d : Nat} {c : UInt8} {t n v : L8} {o : Int} (h : stp d c t = .brc n o v) (done : List Pt) (lit : L8) : prsA d done lit (c :: t) = match prsA (d + 1) [] [] v with
  | .err e => .err e
  | .ok sub rest => if rest.getD 0 0 = 125 then prsA d (fl done lit ++ [.mk n [] o sub]) [] (rest.drop 1) else .err 3 := by
 unfold prsA; rw [List.length_cons, prs, h]
 simp only []
 have h3 := (stp_brc h).2.2.2.2.2
 rw [prs_fuel (t.length + 1) (v.length + 1) (d + 1) [] [] v (by omega) (by omega)]
 cases hp : prs (v.length + 1) (d + 1) [] [] v with
 | err e => rfl
 | ok sub rest =>
  simp only []
  have := prs_rest _ _ _ _ _ _ _ hp
  rw [prs_fuel (t.length + 1) ((rest.drop 1).length + 1) d _ [] (rest.drop 1) (by rw [List.length_drop]; omega) (by omega)]
theorem v1_v2' {c : UInt8} (h : v1 c = true) : v2 c = true := by unfold v2; rw [h]; rfl
theorem isN_v2 {k : L8} (h : isN k = true) : 0 < k.length ∧ k.length ≤ 24 ∧ ∀ c ∈ k, v2 c = true := by
 have h1 : 0 < k.length ∧ k.length ≤ 24 ∧ Nw.good v1 v2 k k.length := of_decide_eq_true h
 refine ⟨h1.1, h1.2.1, fun c hc => ?_⟩
 obtain ⟨j, hj, rfl⟩ := List.getElem_of_mem hc
 have := h1.2.2 j hj
 rw [List.getD_eq_getElem?_getD, List.getElem?_eq_getElem hj] at this
 change okAt v1 v2 j k[j] = true at this
 unfold okAt at this
 split at this
 ·exact v1_v2' this
 ·exact this
theorem absb_app : ∀ (a b : List Pt) (done : List Pt) (lit : L8), absb done lit (a ++ b) = absb (absb done lit a).1 (absb done lit a).2 b
 | [], b, done, lit => rfl
 | p :: a, b, done, lit => by
  rw [List.cons_append, absb, absb]
  split
  ·exact absb_app a b _ _
  ·exact absb_app a b _ _
theorem txtL_app : ∀ (a b : List Pt), txtL (a ++ b) = txtL a ++ txtL b
 | [], b => by rw [txtL]; rfl
 | p :: a, b => by rw [List.cons_append, txtL, txtL, txtL_app a b, List.append_assoc]
theorem escD_app : ∀ (a b : L8), escD (a ++ b) = escD a ++ escD b
 | [], b => rfl
 | c :: a, b => by
  rw [List.cons_append, escD, escD, escD_app a b]
  split <;> rfl
theorem txt_fl (done : List Pt) (lit : L8) : txtL (fl done lit) = txtL done ++ escD lit := by
 unfold fl
 split
 ·rename_i h; rw [h]; simp [escD]
 ·rw [txtL_app, txtL, txtL, List.append_nil]
  unfold litP
  rw [txtP, if_pos rfl]
end T13
end Go.Proofs.YtkcilmmaggmmoaaGreatDoor
namespace Go.Proofs.YtkcilmmaggmmoaaGreatDoor
namespace T13
open Nw
theorem stp_suf {d : Nat} {c : UInt8} {t : L8} : (∀ b r, stp d c t = .lit b r → r <:+ t) ∧ (∀ n r, stp d c t = .plain n r → r <:+ t) ∧ (∀ n o v, stp d c t = .brc n o v → v <:+ t) := by
 unfold stp
 refine ⟨fun b r h => ?_, fun n r h => ?_, fun n o v h => ?_⟩
 all_goals
  repeat' split at h
  all_goals first
   | (cases h; done)
   | (cases h; exact List.suffix_refl _)
   | (cases h; exact List.drop_suffix _ _)
   | (cases h; exact (List.drop_suffix _ _).trans (List.drop_suffix _ _))
   | (cases h; exact ((List.drop_suffix _ _).trans (List.drop_suffix _ _)).trans (List.drop_suffix _ _))
theorem prs_suf : ∀ (f d : Nat) (done : List Pt) (lit l : L8) (ps : List Pt) (r : L8), prs f d done lit l = .ok ps r → r <:+ l
 | 0, _, _, _, _, _, _, h => by cases h
 | f + 1, d, done, lit, [], ps, r, h => by
  rw [prs] at h; cases h; exact List.suffix_refl _
 | f + 1, d, done, lit, c :: t, ps, r, h => by
  rw [prs] at h
  have hs := @stp_suf d c t
  have ht : t <:+ c :: t := List.suffix_cons _ _
  cases hst : stp d c t with
  | stop => rw [hst] at h; cases h; exact List.suffix_refl _
  | lit b r' => rw [hst] at h; exact ((prs_suf f d _ _ _ _ _ h).trans (hs.1 _ _ hst)).trans ht
  | bad e => rw [hst] at h; cases h
  | plain n r' => rw [hst] at h; exact ((prs_suf f d _ _ _ _ _ h).trans (hs.2.1 _ _ hst)).trans ht
  | brc n o v =>
   rw [hst] at h
   simp only [] at h
   cases hp : prs f (d + 1) [] [] v with
   | err e => rw [hp] at h; cases h
   | ok sub rest =>
    rw [hp] at h
    simp only [] at h
    split at h
    ·exact ((((prs_suf f d _ _ _ _ _ h).trans (List.drop_suffix _ _)).trans (prs_suf f (d + 1) _ _ _ _ _ hp)).trans (hs.2.2 _ _ _ hst)).trans ht
    ·cases h
theorem prsA_suf {d : Nat} {done : List Pt} {lit l : L8} {ps : List Pt} {r : L8} (h : prsA d done lit l = .ok ps r) : r <:+ l := prs_suf _ _ _ _ _ _ _ h
theorem suf_drop {s : L8} {k : Nat} {r : L8} (h : r <:+ s.drop k) : r = s.drop (s.length - r.length) := by
 have h2 : r <:+ s := h.trans (List.drop_suffix _ _)
 exact List.suffix_iff_eq_drop.1 h2
end T13
end Go.Proofs.YtkcilmmaggmmoaaGreatDoor
