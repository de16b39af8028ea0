/- TmpOut, TmpPrg -/
import Derived.Test.YtkcilmmaggmmoaaGreatDoorNT13
set_option linter.unusedVariables false
set_option linter.unusedSimpArgs false
set_option maxRecDepth 100000
set_option maxHeartbeats 16000000
namespace Go.Proofs.YtkcilmmaggmmoaaGreatDoor
namespace Nw
end Nw
end Go.Proofs.YtkcilmmaggmmoaaGreatDoor
namespace Go.Proofs.YtkcilmmaggmmoaaGreatDoor
namespace T13
open Nw
theorem wfL_app : ∀ {d : Nat} (a b : List Pt), WfL d a → WfL d b → WfL d (a ++ b)
 | d, [], b, _, hb => hb
 | d, p :: a, b, ha, hb => by
  rw [WfL] at ha
  rw [List.cons_append, WfL]
  exact ⟨ha.1, wfL_app a b ha.2 hb⟩
theorem wfL_fl {d : Nat} {done : List Pt} {lit : L8} (h : WfL d done) (hl : 1 < d → (125 : UInt8) ∉ lit) : WfL d (fl done lit) := by
 unfold fl
 split
 ·exact h
 ·rename_i h0
  refine wfL_app _ _ h ?_
  rw [WfL, WfL]
  refine ⟨?_, trivial⟩
  unfold litP
  rw [WfP]
  exact .inl ⟨rfl, rfl, h0, rfl, hl⟩
def Way (d : Nat) (done : List Pt) (lit : L8) : Prop := WfL d done ∧ (1 < d → (125 : UInt8) ∉ lit) ∧ absb [] [] done = (done, [])
theorem way_fl {d : Nat} {done : List Pt} {lit : L8} (h : Way d done lit) : WfL d (fl done lit) ∧ calm (fl done lit) ∧ absb [] [] (fl done lit) = (done, lit) := by
 obtain ⟨h1, h2, h3⟩ := h
 have e : absb [] [] (fl done lit) = (done, lit) := by
  unfold fl
  split
  ·rename_i h0; rw [h0]; exact h3
  ·rw [absb_app, h3]
   show absb done [] [litP lit] = _
   rw [absb, if_pos (show (litP lit).op = 0 from rfl)]
   rfl
 exact ⟨wfL_fl h1 h2, by unfold calm; rw [e], e⟩
theorem way_var {d : Nat} {done : List Pt} {lit : L8} {p : Pt} (h : Way d done lit) (hp : WfP d p) (ho : p.op ≠ 0) : Way d (fl done lit ++ [p]) [] := by
 obtain ⟨h1, h2, h3⟩ := way_fl h
 refine ⟨wfL_app _ _ h1 ?_, fun _ e => (by cases e), ?_⟩
 ·rw [WfL, WfL]; exact ⟨hp, trivial⟩
 ·rw [absb_app, h3]
  show absb done lit [p] = _
  rw [absb, if_neg ho]
  rfl
theorem prs_wf : ∀ (f d : Nat) (done : List Pt) (lit l : L8) (ps : List Pt) (r : L8), Way d done lit → prs f d done lit l = .ok ps r → WfL d ps ∧ calm ps ∧ (r = [] ∨ r.getD 0 0 = 125)
 | 0, _, _, _, _, _, _, _, h => by cases h
 | f + 1, d, done, lit, [], ps, r, hw, h => by
  rw [prs] at h; cases h
  exact ⟨(way_fl hw).1, (way_fl hw).2.1, .inl rfl⟩
 | f + 1, d, done, lit, c :: t, ps, r, hw, h => by
  rw [prs] at h
  cases hs : stp d c t with
  | stop =>
   rw [hs] at h; cases h
   refine ⟨(way_fl hw).1, (way_fl hw).2.1, .inr ?_⟩
   unfold stp at hs
   split at hs
   ·rename_i hc; exact hc.1
   ·split at hs
    ·cases hs
    ·split at hs
     ·cases hs
     ·split at hs
      ·cases hs
      ·split at hs
       ·split at hs
        ·cases hs
        ·split at hs
         ·split at hs <;> cases hs
         ·cases hs
       ·split at hs <;> cases hs
  | lit b u =>
   rw [hs] at h
   refine prs_wf f _ _ _ _ _ _ ⟨hw.1, fun hd e => ?_, hw.2.2⟩ h
   rcases List.mem_append.1 e with e | e
   ·exact hw.2.1 hd e
   ·exact (stp_lit hs).1 hd (List.mem_singleton.1 e).symm
  | bad e => rw [hs] at h; cases h
  | plain n u =>
   rw [hs] at h
   obtain ⟨_, hd, hn, _⟩ := stp_plain hs
   refine prs_wf f _ _ _ _ _ _ (way_var hw ?_ (by show (1 : Int) ≠ 0; decide)) h
   rw [WfP]
   exact .inr (.inl ⟨rfl, hn, rfl, rfl, hd⟩)
  | brc n o v =>
   rw [hs] at h
   simp only [] at h
   obtain ⟨_, hd, hn, o1, o2, _⟩ := stp_brc hs
   cases hp : prs f (d + 1) [] [] v with
   | err e => rw [hp] at h; cases h
   | ok sub rest =>
    rw [hp] at h
    simp only [] at h
    obtain ⟨k1, k2, _⟩ := prs_wf f _ _ _ _ _ _ ⟨by rw [WfL]; trivial, fun _ e => (by cases e), rfl⟩ hp
    split at h
    ·refine prs_wf f _ _ _ _ _ _ (way_var hw ?_ (by show o ≠ 0; omega)) h
     rw [WfP]
     exact .inr (.inr ⟨o1, o2, hn, rfl, hd, k1, k2⟩)
    ·cases h
theorem way_nil (d : Nat) : Way d [] [] := ⟨by rw [WfL]; trivial, fun _ e => (by cases e), rfl⟩
theorem prsT_wf {s : L8} {ps : List Pt} {r : L8} (h : prsT s = .ok ps r) : WfL 1 ps ∧ calm ps := by
 have := prs_wf _ _ _ _ _ _ _ (way_nil 1) h
 exact ⟨this.1, this.2.1⟩
theorem stp_bad {d : Nat} {c : UInt8} {t : L8} {e : Int} (h : stp d c t = .bad e) : e = 3 ∨ e = 9 := by
 unfold stp at h
 split at h
 ·cases h
 ·split at h
  ·cases h
  ·split at h
   ·cases h
   ·split at h
    ·cases h; exact .inr rfl
    ·split at h
     ·split at h
      ·cases h; exact .inl rfl
      ·split at h
       ·split at h
        ·cases h
        ·cases h; exact .inl rfl
       ·cases h
     ·split at h
      ·cases h; exact .inl rfl
      ·cases h
theorem prs_err : ∀ (f d : Nat) (done : List Pt) (lit l : L8) (e : Int), l.length < f → prs f d done lit l = .err e → e = 3 ∨ e = 9
 | 0, _, _, _, _, _, h, _ => absurd h (Nat.not_lt_zero _)
 | f + 1, d, done, lit, [], e, _, h => by rw [prs] at h; cases h
 | f + 1, d, done, lit, c :: t, e, hf, h => by
  rw [prs] at h
  rw [List.length_cons] at hf
  cases hs : stp d c t with
  | stop => rw [hs] at h; cases h
  | lit b u =>
   rw [hs] at h
   have hu : u.length ≤ t.length := by rcases (stp_lit hs).2 with ⟨_, rfl⟩ | ⟨_, _⟩ <;> omega
   exact prs_err f _ _ _ _ _ (by omega) h
  | bad e' => rw [hs] at h; cases h; exact stp_bad hs
  | plain n u =>
   rw [hs] at h
   have := (stp_plain hs).2.2.2
   exact prs_err f _ _ _ _ _ (by omega) h
  | brc n o v =>
   rw [hs] at h
   simp only [] at h
   have h3 := (stp_brc hs).2.2.2.2.2
   cases hp : prs f (d + 1) [] [] v with
   | err e' => rw [hp] at h; cases h; exact prs_err f _ _ _ _ _ (by omega) hp
   | ok sub rest =>
    rw [hp] at h
    simp only [] at h
    have := prs_rest _ _ _ _ _ _ _ hp
    split at h
    ·exact prs_err f _ _ _ _ _ (by rw [List.length_drop]; omega) h
    ·cases h; exact .inl rfl
theorem prsT_err {s : L8} {e : Int} (h : prsT s = .err e) : e ≠ 0 := by
 rcases prs_err _ _ _ _ _ _ (Nat.lt_succ_self _) h with rfl | rfl <;> decide
theorem prs_size : ∀ (f d : Nat) (done : List Pt) (lit l : L8) (ps : List Pt) (r : L8), prs f d done lit l = .ok ps r → (txtL ps).length + 2 * r.length ≤ (txtL (fl done lit)).length + 2 * l.length
 | 0, _, _, _, _, _, _, h => by cases h
 | f + 1, d, done, lit, [], ps, r, h => by rw [prs] at h; cases h; exact Nat.le_refl _
 | f + 1, d, done, lit, c :: t, ps, r, h => by
  rw [prs] at h
  rw [List.length_cons]
  cases hs : stp d c t with
  | stop => rw [hs] at h; cases h; exact Nat.le_refl _
  | lit b u =>
   rw [hs] at h
   have h1 := prs_size f _ _ _ _ _ _ h
   rw [txt_fl, escD_app, List.length_append, List.length_append] at h1
   rw [txt_fl, List.length_append]
   rcases (stp_lit hs).2 with ⟨hb, rfl⟩ | ⟨rfl, h2⟩
   ·have : (escD [b]).length = 1 := by unfold escD; rw [if_neg hb]; rfl
    omega
   ·have : (escD [36]).length = 2 := rfl
    omega
  | bad e => rw [hs] at h; cases h
  | plain n u =>
   rw [hs] at h
   have h1 := prs_size f _ _ _ _ _ _ h
   obtain ⟨_, _, hn, h2⟩ := stp_plain hs
   have h3 := (isN_v2 hn).1
   have e : (txtL (fl (fl done lit ++ [Pt.mk n [] 1 []]) [])).length = (txtL (fl done lit)).length + (n.length + 3) := by
    rw [txt_fl, txtL_app, txtL, txtL, txtP, if_neg (by decide)]
    simp [markL, escD]
   rw [e] at h1
   omega
  | brc n o v =>
   rw [hs] at h
   simp only [] at h
   obtain ⟨_, _, hn, o1, o2, h2⟩ := stp_brc hs
   cases hp : prs f (d + 1) [] [] v with
   | err e => rw [hp] at h; cases h
   | ok sub rest =>
    rw [hp] at h
    simp only [] at h
    have h4 := prs_size f _ _ _ _ _ _ hp
    have e0 : (txtL (fl [] [])).length = 0 := by unfold fl; rw [if_pos rfl, txtL]; rfl
    rw [e0] at h4
    split at h
    ·rename_i hr
     have h1 := prs_size f _ _ _ _ _ _ h
     have hr1 : 1 ≤ rest.length := by
      match rest, hr with
      | [], h => exact absurd h (by decide)
      | _ :: t, _ => simp
     have h3 := (isN_v2 hn).1
     have e : (txtL (fl (fl done lit ++ [Pt.mk n [] o sub]) [])).length = (txtL (fl done lit)).length + (n.length + (markL o).length + (txtL sub).length + 3) := by
      rw [txt_fl, txtL_app, txtL, txtL, txtP, if_neg (by omega), if_pos (by omega)]
      simp [escD]
      omega
     rw [e, List.length_drop] at h1
     omega
    ·cases h
theorem prsT_size {s : L8} {ps : List Pt} {r : L8} (h : prsT s = .ok ps r) : (txtL ps).length ≤ 2 * s.length := by
 have h1 := prs_size _ _ _ _ _ _ _ h
 have e0 : (txtL (fl [] [])).length = 0 := by unfold fl; rw [if_pos rfl, txtL]; rfl
 omega
mutual
theorem cntP_le : ∀ (p : Pt) (d : Nat), WfP d p → cntP p ≤ (txtP p).length
 | .mk n t o s, d, h => by
  rw [WfP] at h
  rw [cntP]
  rcases h with ⟨rfl, rfl, ht, rfl, h5⟩ | ⟨rfl, hn, rfl, rfl, hd⟩ | ⟨h1, h2, hn, rfl, hd, hw, hcalm⟩
  ·rw [txtP, if_pos rfl, cntL]
   match t, ht with
   | c :: t, _ =>
    unfold escD
    split <;> simp
  ·rw [txtP, if_neg (by decide), cntL]
   simp
  ·have := cntL_le s (d + 1) hw
   rw [txtP, if_neg (by omega), if_pos (by omega)]
   simp only [List.length_cons, List.length_append]
   omega
theorem cntL_le : ∀ (ps : List Pt) (d : Nat), WfL d ps → cntL ps ≤ (txtL ps).length
 | [], d, _ => by rw [cntL]; exact Nat.zero_le _
 | p :: ps, d, h => by
  rw [WfL] at h
  rw [cntL, txtL, List.length_append]
  have := cntP_le p d h.1
  have := cntL_le ps d h.2
  omega
end
mutual
theorem depP_le : ∀ (p : Pt) (d : Nat), WfP d p → depP p ≤ 9 - d
 | .mk n t o s, d, h => by
  rw [WfP] at h
  rw [depP]
  rcases h with ⟨rfl, rfl, ht, rfl, h5⟩ | ⟨rfl, hn, rfl, rfl, hd⟩ | ⟨h1, h2, hn, rfl, hd, hw, hcalm⟩
  ·rw [if_pos rfl]; exact Nat.zero_le _
  ·rw [if_neg (by decide), depL]; omega
  ·have := depL_le s (d + 1) hw
   rw [if_neg (by omega)]; omega
theorem depL_le : ∀ (ps : List Pt) (d : Nat), WfL d ps → depL ps ≤ 9 - d
 | [], d, _ => by rw [depL]; exact Nat.zero_le _
 | p :: ps, d, h => by
  rw [WfL] at h
  rw [depL]
  have := depP_le p d h.1
  have := depL_le ps d h.2
  omega
end
mutual
theorem namP_len : ∀ (p : Pt), (namP p).length ≤ cntP p
 | .mk n t o s => by
  rw [namP, cntP, List.length_append]
  have := namL_len s
  have : (if o ≠ 0 then [n] else []).length ≤ 1 := by split <;> simp
  omega
theorem namL_len : ∀ (ps : List Pt), (namL ps).length ≤ cntL ps
 | [] => by rw [namL, cntL]; exact Nat.le_refl _
 | p :: ps => by
  rw [namL, cntL, List.length_append]
  have := namP_len p
  have := namL_len ps
  omega
end
end T13
end Go.Proofs.YtkcilmmaggmmoaaGreatDoor
namespace Go.Proofs.YtkcilmmaggmmoaaGreatDoor
namespace T13
open Nw
def endB (D : Nat) : L8 → Bool
 | [] => true
 | c :: _ => decide (1 < D) && (c == 125)
def LitTo (D : Nat) (s t q : L8) : Prop := (∀ done lit, prsA D done lit s = prsA D done (lit ++ t) q) ∧ t.length + q.length ≤ s.length
theorem LitTo.refl (D : Nat) (s : L8) : LitTo D s [] s := ⟨fun done lit => by rw [List.append_nil], by simp⟩
theorem LitTo.byte {D : Nat} {s t r : L8} {c : UInt8} (h : LitTo D s t (c :: r)) (he : endB D (c :: r) = false) (hc : c ≠ 36) : LitTo D s (t ++ [c]) r := by
 have hs : stp D c r = .lit c r := by
  unfold stp
  rw [if_neg (fun e => ?_), if_pos hc]
  unfold endB at he
  rw [e.1, decide_eq_true e.2] at he
  cases he
 refine ⟨fun done lit => ?_, ?_⟩
 ·rw [h.1, A_lit hs, List.append_assoc]
 ·have := h.2
  rw [List.length_cons] at this
  rw [List.length_append, List.length_singleton]
  omega
theorem LitTo.two {D : Nat} {s t r : L8} (h : LitTo D s t (36 :: 36 :: r)) : LitTo D s (t ++ [36]) r := by
 have hs : stp D 36 (36 :: r) = .lit 36 r := by
  unfold stp
  rw [if_neg (fun e => absurd e.1 (by decide)), if_neg (fun e => e rfl), if_pos (show (36 :: r).getD 0 0 = 36 from rfl)]
  rfl
 refine ⟨fun done lit => ?_, ?_⟩
 ·rw [h.1, A_lit hs, List.append_assoc]
 ·have := h.2
  rw [List.length_cons, List.length_cons] at this
  rw [List.length_append, List.length_singleton]
  omega
theorem A_end {D : Nat} {q : L8} (he : endB D q = true) (done : List Pt) (lit : L8) : prsA D done lit q = .ok (fl done lit) q := by
 cases q with
 | nil => exact A_nil D done lit
 | cons c t =>
  refine A_stop ?_ done lit
  unfold endB at he
  rw [Bool.and_eq_true, decide_eq_true_iff, beq_iff_eq] at he
  unfold stp
  rw [if_pos ⟨he.2, he.1⟩]
inductive RR where
 | bad (e : Int)
 | good (p : Pt) (r : L8)
def brA (D : Nat) (n u : L8) : RR :=
 if (opN u).1 = 1 then (if u.getD 0 0 = 125 then .good (.mk n [] 1 []) (u.drop 1) else .bad 3)
 else match prsA (D + 1) [] [] (u.drop (opN u).2) with
  | .err e => .bad e
  | .ok sub rest => if rest.getD 0 0 = 125 then .good (.mk n [] (opN u).1 sub) (rest.drop 1) else .bad 3
def rfA (D : Nat) (t : L8) : RR :=
 if 8 < D then .bad 9
 else if t.getD 0 0 = 123 then (if isN ((t.drop 1).take (lenN (t.drop 1))) = false then .bad 3 else brA D ((t.drop 1).take (lenN (t.drop 1))) ((t.drop 1).drop (lenN (t.drop 1))))
 else if isN (t.take (lenN t)) = false then .bad 3 else .good (.mk (t.take (lenN t)) [] 1 []) (t.drop (lenN t))
theorem A_ref {D : Nat} {t : L8} (ht : t.getD 0 0 ≠ 36) (done : List Pt) (lit : L8) : prsA D done lit (36 :: t) = match rfA D t with
  | .bad e => .err e
  | .good p r => prsA D (fl done lit ++ [p]) [] r := by
 have h1 : ¬ ((36 : UInt8) = 125 ∧ 1 < D) := fun e => absurd e.1 (by decide)
 have h2 : ¬ ((36 : UInt8) ≠ 36) := fun e => e rfl
 by_cases hD : 8 < D
 ·rw [A_bad (e := 9) (by unfold stp; rw [if_neg h1, if_neg h2, if_neg ht, if_pos hD])]
  unfold rfA
  rw [if_pos hD]
 ·by_cases hb : t.getD 0 0 = 123
  ·have hrf : rfA D t = (if isN ((t.drop 1).take (lenN (t.drop 1))) = false then .bad 3 else brA D ((t.drop 1).take (lenN (t.drop 1))) ((t.drop 1).drop (lenN (t.drop 1)))) := by
    unfold rfA
    rw [if_neg hD, if_pos hb]
   have hst : ∀ x, (if isN ((t.drop 1).take (lenN (t.drop 1))) = false then St.bad 3
     else if (opN ((t.drop 1).drop (lenN (t.drop 1)))).1 = 1 then
      (if ((t.drop 1).drop (lenN (t.drop 1))).getD 0 0 = 125 then .plain ((t.drop 1).take (lenN (t.drop 1))) (((t.drop 1).drop (lenN (t.drop 1))).drop 1) else .bad 3)
     else .brc ((t.drop 1).take (lenN (t.drop 1))) (opN ((t.drop 1).drop (lenN (t.drop 1)))).1 (((t.drop 1).drop (lenN (t.drop 1))).drop (opN ((t.drop 1).drop (lenN (t.drop 1)))).2)) = x → stp D 36 t = x := by
    intro x hx
    unfold stp
    rw [if_neg h1, if_neg h2, if_neg ht, if_neg hD, if_pos hb]
    exact hx
   rw [hrf]
   generalize (t.drop 1).take (lenN (t.drop 1)) = n at hst ⊢
   generalize (t.drop 1).drop (lenN (t.drop 1)) = u at hst ⊢
   by_cases hn : isN n = false
   ·rw [if_pos hn, A_bad (hst _ (by rw [if_pos hn]))]
   ·rw [if_neg hn]
    rw [if_neg hn] at hst
    unfold brA
    by_cases ho : (opN u).1 = 1
    ·rw [if_pos ho]
     rw [if_pos ho] at hst
     by_cases hc : u.getD 0 0 = 125
     ·rw [if_pos hc, A_plain (hst _ (by rw [if_pos hc]))]
     ·rw [if_neg hc, A_bad (hst _ (by rw [if_neg hc]))]
    ·rw [if_neg ho]
     rw [if_neg ho] at hst
     rw [A_brc (hst _ rfl)]
     cases prsA (D + 1) [] [] (u.drop (opN u).2) with
     | err e => rfl
     | ok sub rest =>
      show (if rest.getD 0 0 = 125 then _ else _) = match (if rest.getD 0 0 = 125 then RR.good _ _ else RR.bad 3) with | .bad e => _ | .good p r => _
      by_cases hr : rest.getD 0 0 = 125
      ·rw [if_pos hr, if_pos hr]
      ·rw [if_neg hr, if_neg hr]
  ·unfold rfA
   rw [if_neg hD, if_neg hb]
   by_cases hn : isN (t.take (lenN t)) = false
   ·rw [if_pos hn, A_bad (e := 3) (by unfold stp; rw [if_neg h1, if_neg h2, if_neg ht, if_neg hD, if_neg hb, if_pos hn])]
   ·rw [if_neg hn, A_plain (n := t.take (lenN t)) (r := t.drop (lenN t)) (by unfold stp; rw [if_neg h1, if_neg h2, if_neg ht, if_neg hD, if_neg hb, if_neg hn])]
theorem prsA_err {D : Nat} {done : List Pt} {lit l : L8} {e : Int} (h : prsA D done lit l = .err e) : e = 3 ∨ e = 9 := prs_err _ _ _ _ _ _ (Nat.lt_succ_self _) h
theorem prsA_rest {D : Nat} {done : List Pt} {lit l : L8} {ps : List Pt} {r : L8} (h : prsA D done lit l = .ok ps r) : r.length ≤ l.length := prs_rest _ _ _ _ _ _ _ h
theorem brA_bad {D : Nat} {n u : L8} {e : Int} (h : brA D n u = .bad e) : e = 3 ∨ e = 9 := by
 unfold brA at h
 split at h
 ·split at h
  ·cases h
  ·injection h with h; exact .inl h.symm
 ·split at h
  ·rename_i hp
   injection h with h
   subst h
   exact prsA_err hp
  ·split at h
   ·cases h
   ·injection h with h; exact .inl h.symm
theorem rfA_bad {D : Nat} {t : L8} {e : Int} (h : rfA D t = .bad e) : e = 3 ∨ e = 9 := by
 unfold rfA at h
 split at h
 ·injection h with h; exact .inr h.symm
 ·split at h
  ·split at h
   ·injection h with h; exact .inl h.symm
   ·exact brA_bad h
  ·split at h
   ·injection h with h; exact .inl h.symm
   ·cases h
theorem brA_good {D : Nat} {n u : L8} {p : Pt} {r : L8} (h : brA D n u = .good p r) : r.length ≤ u.length := by
 unfold brA at h
 split at h
 ·split at h
  ·injection h with _ h
   subst h
   rw [List.length_drop]; omega
  ·cases h
 ·split at h
  ·cases h
  ·rename_i hp
   split at h
   ·injection h with _ h
    subst h
    have := prsA_rest hp
    rw [List.length_drop] at this ⊢
    omega
   ·cases h
theorem rfA_good {D : Nat} {t : L8} {p : Pt} {r : L8} (h : rfA D t = .good p r) : r.length ≤ t.length := by
 unfold rfA at h
 split at h
 ·cases h
 ·split at h
  ·split at h
   ·cases h
   ·have := brA_good h
    rw [List.length_drop, List.length_drop] at this
    omega
  ·split at h
   ·cases h
   ·injection h with _ h
    subst h
    rw [List.length_drop]; omega
def pre (x l : L8) : Bool := x.isPrefixOf l
theorem pre_one (c : UInt8) (l : L8) (hc : c ≠ 0) : pre [c] l = decide (l.getD 0 0 = c) := by
 unfold pre
 cases l with
 | nil => exact (decide_eq_false (fun e => hc (e : (0 : UInt8) = c).symm)).symm
 | cons d t =>
  show ((c == d) && true) = decide (d = c)
  rw [Bool.and_true, Bool.eq_iff_iff, beq_iff_eq, decide_eq_true_iff]
  exact eq_comm
theorem pre_two (c d : UInt8) (l : L8) (hc : c ≠ 0) (hd : d ≠ 0) : pre [c, d] l = decide (l.getD 0 0 = c ∧ l.getD 1 0 = d) := by
 unfold pre
 match l with
 | [] => exact (decide_eq_false (fun e => hc (e.1 : (0 : UInt8) = c).symm)).symm
 | [x] => 
  show ((c == x) && false) = decide (x = c ∧ (0 : UInt8) = d)
  rw [Bool.and_false, decide_eq_false (fun e => hd e.2.symm)]
 | x :: y :: t =>
  show ((c == x) && ((d == y) && true)) = decide (x = c ∧ y = d)
  rw [Bool.and_true, Bool.eq_iff_iff, Bool.and_eq_true, beq_iff_eq, beq_iff_eq, decide_eq_true_iff]
  exact ⟨fun h => ⟨h.1.symm, h.2.symm⟩, fun h => ⟨h.1.symm, h.2.symm⟩⟩
theorem op_first (l : L8) : (opN l).1 = (if pre (markL 2) l = true then 2 else if pre (markL 3) l = true then 3 else if pre (markL 4) l = true then 4 else if pre (markL 5) l = true then 5 else if pre (markL 6) l = true then 6 else if pre (markL 7) l = true then 7 else 1) := by
 rw [show markL 2 = [58, 45] from rfl, show markL 3 = [45] from rfl, show markL 4 = [58, 63] from rfl, show markL 5 = [63] from rfl, show markL 6 = [58, 43] from rfl, show markL 7 = [43] from rfl,
  pre_one _ _ (by decide), pre_one _ _ (by decide), pre_one _ _ (by decide), pre_two _ _ _ (by decide) (by decide), pre_two _ _ _ (by decide) (by decide), pre_two _ _ _ (by decide) (by decide)]
 simp only [decide_eq_true_iff]
 unfold opN
 generalize l.getD 0 0 = a
 generalize l.getD 1 0 = b
 by_cases h1 : a = 58
 ·subst h1
  by_cases h2 : b = 45
  ·subst h2; rfl
  ·by_cases h3 : b = 63
   ·subst h3; rfl
   ·by_cases h4 : b = 43
    ·subst h4; rfl
    ·simp [h2, h3, h4]
 ·by_cases h2 : a = 45
  ·subst h2; simp
  ·by_cases h3 : a = 63
   ·subst h3; simp
   ·by_cases h4 : a = 43
    ·subst h4; simp
    ·simp [h1, h2, h3, h4]
theorem op_len (l : L8) : (opN l).2 = (if (opN l).1 = 1 then 0 else (markL (opN l).1).length) := by
 rcases opN_cases l with h | h
 ·rw [if_pos h.1, h.2]
 ·rw [if_neg (by omega), h.2.2.1]
end T13
end Go.Proofs.YtkcilmmaggmmoaaGreatDoor
