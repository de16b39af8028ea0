/- TmpOut -/
import Derived.Test.YtkcilmmaggmmoaaDoorGT7
set_option linter.unusedVariables false
set_option linter.unusedSimpArgs false
set_option maxRecDepth 100000
set_option maxHeartbeats 16000000
namespace Go.Proofs.YtkcilmmaggmmoaaDoor
namespace Nw
end Nw
end Go.Proofs.YtkcilmmaggmmoaaDoor
namespace Go.Proofs.YtkcilmmaggmmoaaDoor
namespace T13
open Nw
theorem wfL_app : ∀ {d : Nat} (a b : List Pt), WfL d a → WfL d b → WfL d (a ++ b)
 | d, [], b, _, hb => hb
 | d, p :: a, b, ha, hb => by
  rw [WfL] at ha
  rw [List.cons_append, WfL]
  exact ⟨ha.1, wfL_app a b ha.2 hb⟩
theorem wfL_fl {d : Nat} {done : List Pt} {lit : L8} (h : WfL d done) (hl : 1 < d → (125 : UInt8) ∉ lit) : WfL d (fl done lit) := by
 unfold fl
 split
 ·exact h
 ·rename_i h0
  refine wfL_app _ _ h ?_
  rw [WfL, WfL]
  refine ⟨?_, trivial⟩
  unfold litP
  rw [WfP]
  exact .inl ⟨rfl, rfl, h0, rfl, hl⟩
def Way (d : Nat) (done : List Pt) (lit : L8) : Prop := WfL d done ∧ (1 < d → (125 : UInt8) ∉ lit) ∧ absb [] [] done = (done, [])
theorem way_fl {d : Nat} {done : List Pt} {lit : L8} (h : Way d done lit) : WfL d (fl done lit) ∧ calm (fl done lit) ∧ absb [] [] (fl done lit) = (done, lit) := by
 obtain ⟨h1, h2, h3⟩ := h
 have e : absb [] [] (fl done lit) = (done, lit) := by
  unfold fl
  split
  ·rename_i h0; rw [h0]; exact h3
  ·rw [absb_app, h3]
   show absb done [] [litP lit] = _
   rw [absb, if_pos (show (litP lit).op = 0 from rfl)]
   rfl
 exact ⟨wfL_fl h1 h2, by unfold calm; rw [e], e⟩
theorem way_var {d : Nat} {done : List Pt} {lit : L8} {p : Pt} (h : Way d done lit) (hp : WfP d p) (ho : p.op ≠ 0) : Way d (fl done lit ++ [p]) [] := by
 obtain ⟨h1, h2, h3⟩ := way_fl h
 refine ⟨wfL_app _ _ h1 ?_, fun _ e => (by cases e), ?_⟩
 ·rw [WfL, WfL]; exact ⟨hp, trivial⟩
 ·rw [absb_app, h3]
  show absb done lit [p] = _
  rw [absb, if_neg ho]
  rfl
theorem prs_wf : ∀ (f d : Nat) (done : List Pt) (lit l : L8) (ps : List Pt) (r : L8), Way d done lit → prs f d done lit l = .ok ps r → WfL d ps ∧ calm ps ∧ (r = [] ∨ r.getD 0 0 = 125)
 | 0, _, _, _, _, _, _, _, h => by cases h
 | f + 1, d, done, lit, [], ps, r, hw, h => by
  rw [prs] at h; cases h
  exact ⟨(way_fl hw).1, (way_fl hw).2.1, .inl rfl⟩
 | f + 1, d, done, lit, c :: t, ps, r, hw, h => by
  rw [prs] at h
  cases hs : stp d c t with
  | stop =>
   rw [hs] at h; cases h
   refine ⟨(way_fl hw).1, (way_fl hw).2.1, .inr ?_⟩
   unfold stp at hs
   split at hs
   ·rename_i hc; exact hc.1
   ·split at hs
    ·cases hs
    ·split at hs
     ·cases hs
     ·split at hs
      ·cases hs
      ·split at hs
       ·split at hs
        ·cases hs
        ·split at hs
         ·split at hs <;> cases hs
         ·cases hs
       ·split at hs <;> cases hs
  | lit b u =>
   rw [hs] at h
   refine prs_wf f _ _ _ _ _ _ ⟨hw.1, fun hd e => ?_, hw.2.2⟩ h
   rcases List.mem_append.1 e with e | e
   ·exact hw.2.1 hd e
   ·exact (stp_lit hs).1 hd (List.mem_singleton.1 e).symm
  | bad e => rw [hs] at h; cases h
  | plain n u =>
   rw [hs] at h
   obtain ⟨_, hd, hn, _⟩ := stp_plain hs
   refine prs_wf f _ _ _ _ _ _ (way_var hw ?_ (by show (1 : Int) ≠ 0; decide)) h
   rw [WfP]
   exact .inr (.inl ⟨rfl, hn, rfl, rfl, hd⟩)
  | brc n o v =>
   rw [hs] at h
   simp only [] at h
   obtain ⟨_, hd, hn, o1, o2, _⟩ := stp_brc hs
   cases hp : prs f (d + 1) [] [] v with
   | err e => rw [hp] at h; cases h
   | ok sub rest =>
    rw [hp] at h
    simp only [] at h
    obtain ⟨k1, k2, _⟩ := prs_wf f _ _ _ _ _ _ ⟨by rw [WfL]; trivial, fun _ e => (by cases e), rfl⟩ hp
    split at h
    ·refine prs_wf f _ _ _ _ _ _ (way_var hw ?_ (by show o ≠ 0; omega)) h
     rw [WfP]
     exact .inr (.inr ⟨o1, o2, hn, rfl, hd, k1, k2⟩)
    ·cases h
theorem way_nil (d : Nat) : Way d [] [] := ⟨by rw [WfL]; trivial, fun _ e => (by cases e), rfl⟩
theorem prsT_wf {s : L8} {ps : List Pt} {r : L8} (h : prsT s = .ok ps r) : WfL 1 ps ∧ calm ps := by
 have := prs_wf _ _ _ _ _ _ _ (way_nil 1) h
 exact ⟨this.1, this.2.1⟩
theorem stp_bad {d : Nat} {c : UInt8} {t : L8} {e : Int} (h : stp d c t = .bad e) : e = 3 ∨ e = 9 := by
 unfold stp at h
 split at h
 ·cases h
 ·split at h
  ·cases h
  ·split at h
   ·cases h
   ·split at h
    ·cases h; exact .inr rfl
    ·split at h
     ·split at h
      ·cases h; exact .inl rfl
      ·split at h
       ·split at h
        ·cases h
        ·cases h; exact .inl rfl
       ·cases h
     ·split at h
      ·cases h; exact .inl rfl
      ·cases h
theorem prs_err : ∀ (f d : Nat) (done : List Pt) (lit l : L8) (e : Int), l.length < f → prs f d done lit l = .err e → e = 3 ∨ e = 9
 | 0, _, _, _, _, _, h, _ => absurd h (Nat.not_lt_zero _)
 | f + 1, d, done, lit, [], e, _, h => by rw [prs] at h; cases h
 | f + 1, d, done, lit, c :: t, e, hf, h => by
  rw [prs] at h
  rw [List.length_cons] at hf
  cases hs : stp d c t with
  | stop => rw [hs] at h; cases h
  | lit b u =>
   rw [hs] at h
   have hu : u.length ≤ t.length := by rcases (stp_lit hs).2 with ⟨_, rfl⟩ | ⟨_, _⟩ <;> omega
   exact prs_err f _ _ _ _ _ (by omega) h
  | bad e' => rw [hs] at h; cases h; exact stp_bad hs
  | plain n u =>
   rw [hs] at h
   have := (stp_plain hs).2.2.2
   exact prs_err f _ _ _ _ _ (by omega) h
  | brc n o v =>
   rw [hs] at h
   simp only [] at h
   have h3 := (stp_brc hs).2.2.2.2.2
   cases hp : prs f (d + 1) [] [] v with
   | err e' => rw [hp] at h; cases h; exact prs_err f _ _ _ _ _ (by omega) hp
   | ok sub rest =>
    rw [hp] at h
    simp only [] at h
    have := prs_rest _ _ _ _ _ _ _ hp
    split at h
    ·exact prs_err f _ _ _ _ _ (by rw [List.length_drop]; omega) h
    ·cases h; exact .inl rfl
theorem prsT_err {s : L8} {e : Int} (h : prsT s = .err e) : e ≠ 0 := by
 rcases prs_err _ _ _ _ _ _ (Nat.lt_succ_self _) h with rfl | rfl <;> decide
theorem prs_size : ∀ (f d : Nat) (done : List Pt) (lit l : L8) (ps : List Pt) (r : L8), prs f d done lit l = .ok ps r → (txtL ps).length + 2 * r.length ≤ (txtL (fl done lit)).length + 2 * l.length
 | 0, _, _, _, _, _, _, h => by cases h
 | f + 1, d, done, lit, [], ps, r, h => by rw [prs] at h; cases h; exact Nat.le_refl _
 | f + 1, d, done, lit, c :: t, ps, r, h => by
  rw [prs] at h
  rw [List.length_cons]
  cases hs : stp d c t with
  | stop => rw [hs] at h; cases h; exact Nat.le_refl _
  | lit b u =>
   rw [hs] at h
   have h1 := prs_size f _ _ _ _ _ _ h
   rw [txt_fl, escD_app, List.length_append, List.length_append] at h1
   rw [txt_fl, List.length_append]
   rcases (stp_lit hs).2 with ⟨hb, rfl⟩ | ⟨rfl, h2⟩
   ·have : (escD [b]).length = 1 := by unfold escD; rw [if_neg hb]; rfl
    omega
   ·have : (escD [36]).length = 2 := rfl
    omega
  | bad e => rw [hs] at h; cases h
  | plain n u =>
   rw [hs] at h
   have h1 := prs_size f _ _ _ _ _ _ h
   obtain ⟨_, _, hn, h2⟩ := stp_plain hs
   have h3 := (isN_v2 hn).1
   have e : (txtL (fl (fl done lit ++ [Pt.mk n [] 1 []]) [])).length = (txtL (fl done lit)).length + (n.length + 3) := by
    rw [txt_fl, txtL_app, txtL, txtL, txtP, if_neg (by decide)]
    simp [markL, escD]
   rw [e] at h1
   omega
  | brc n o v =>
   rw [hs] at h
   simp only [] at h
   obtain ⟨_, _, hn, o1, o2, h2⟩ := stp_brc hs
   cases hp : prs f (d + 1) [] [] v with
   | err e => rw [hp] at h; cases h
   | ok sub rest =>
    rw [hp] at h
    simp only [] at h
    have h4 := prs_size f _ _ _ _ _ _ hp
    have e0 : (txtL (fl [] [])).length = 0 := by unfold fl; rw [if_pos rfl, txtL]; rfl
    rw [e0] at h4
    split at h
    ·rename_i hr
     have h1 := prs_size f _ _ _ _ _ _ h
     have hr1 : 1 ≤ rest.length := by
      match rest, hr with
      | [], h => exact absurd h (by decide)
      | _ :: t, _ => simp
     have h3 := (isN_v2 hn).1
     have e : (txtL (fl (fl done lit ++ [Pt.mk n [] o sub]) [])).length = (txtL (fl done lit)).length + (n.length + (markL o).length + (txtL sub).length + 3) := by
      rw [txt_fl, txtL_app, txtL, txtL, txtP, if_neg (by omega), if_pos (by omega)]
      simp [escD]
      omega
     rw [e, List.length_drop] at h1
     omega
    ·cases h
theorem prsT_size {s : L8} {ps : List Pt} {r : L8} (h : prsT s = .ok ps r) : (txtL ps).length ≤ 2 * s.length := by
 have h1 := prs_size _ _ _ _ _ _ _ h
 have e0 : (txtL (fl [] [])).length = 0 := by unfold fl; rw [if_pos rfl, txtL]; rfl
 omega
mutual
theorem cntP_le : ∀ (p : Pt) (d : Nat), WfP d p → cntP p ≤ (txtP p).length
 | .mk n t o s, d, h => by
  rw [WfP] at h
  rw [cntP]
  rcases h with ⟨rfl, rfl, ht, rfl, h5⟩ | ⟨rfl, hn, rfl, rfl, hd⟩ | ⟨h1, h2, hn, rfl, hd, hw, hcalm⟩
  ·rw [txtP, if_pos rfl, cntL]
   match t, ht with
   | c :: t, _ =>
    unfold escD
    split <;> simp
  ·rw [txtP, if_neg (by decide), cntL]
   simp
  ·have := cntL_le s (d + 1) hw
   rw [txtP, if_neg (by omega), if_pos (by omega)]
   simp only [List.length_cons, List.length_append]
   omega
theorem cntL_le : ∀ (ps : List Pt) (d : Nat), WfL d ps → cntL ps ≤ (txtL ps).length
 | [], d, _ => by rw [cntL]; exact Nat.zero_le _
 | p :: ps, d, h => by
  rw [WfL] at h
  rw [cntL, txtL, List.length_append]
  have := cntP_le p d h.1
  have := cntL_le ps d h.2
  omega
end
mutual
theorem depP_le : ∀ (p : Pt) (d : Nat), WfP d p → depP p ≤ 9 - d
 | .mk n t o s, d, h => by
  rw [WfP] at h
  rw [depP]
  rcases h with ⟨rfl, rfl, ht, rfl, h5⟩ | ⟨rfl, hn, rfl, rfl, hd⟩ | ⟨h1, h2, hn, rfl, hd, hw, hcalm⟩
  ·rw [if_pos rfl]; exact Nat.zero_le _
  ·rw [if_neg (by decide), depL]; omega
  ·have := depL_le s (d + 1) hw
   rw [if_neg (by omega)]; omega
theorem depL_le : ∀ (ps : List Pt) (d : Nat), WfL d ps → depL ps ≤ 9 - d
 | [], d, _ => by rw [depL]; exact Nat.zero_le _
 | p :: ps, d, h => by
  rw [WfL] at h
  rw [depL]
  have := depP_le p d h.1
  have := depL_le ps d h.2
  omega
end
mutual
theorem namP_ok : ∀ (p : Pt) (d : Nat), WfP d p → ∀ k ∈ namP p, isN k = true
 | .mk n t o s, d, h, k, hk => by
  rw [WfP] at h
  rw [namP] at hk
  rcases h with ⟨rfl, rfl, ht, rfl, h5⟩ | ⟨rfl, hn, rfl, rfl, hd⟩ | ⟨h1, h2, hn, rfl, hd, hw, hcalm⟩
  ·rw [namL] at hk
   simp at hk
  ·rw [namL] at hk
   simp at hk
   rw [hk]; exact hn
  ·rcases List.mem_append.1 hk with hk | hk
   ·rw [if_pos (by omega)] at hk
    rw [List.mem_singleton.1 hk]; exact hn
   ·exact namL_ok s (d + 1) hw k hk
theorem namL_ok : ∀ (ps : List Pt) (d : Nat), WfL d ps → ∀ k ∈ namL ps, isN k = true
 | [], d, _, k, hk => by rw [namL] at hk; cases hk
 | p :: ps, d, h, k, hk => by
  rw [WfL] at h
  rw [namL] at hk
  rcases List.mem_append.1 hk with hk | hk
  ·exact namP_ok p d h.1 k hk
  ·exact namL_ok ps d h.2 k hk
end
mutual
theorem namP_len : ∀ (p : Pt), (namP p).length ≤ cntP p
 | .mk n t o s => by
  rw [namP, cntP, List.length_append]
  have := namL_len s
  have : (if o ≠ 0 then [n] else []).length ≤ 1 := by split <;> simp
  omega
theorem namL_len : ∀ (ps : List Pt), (namL ps).length ≤ cntL ps
 | [] => by rw [namL, cntL]; exact Nat.le_refl _
 | p :: ps => by
  rw [namL, cntL, List.length_append]
  have := namP_len p
  have := namL_len ps
  omega
end
end T13
end Go.Proofs.YtkcilmmaggmmoaaDoor
