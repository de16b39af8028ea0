/- BloCount -/
import Derived.Test.YtecglpocmhkkiaaGreatDoorET4
import Derived.Test.YtecglpocmhkkiaaGreatDoorET5
set_option linter.unusedVariables false
set_option linter.unusedSimpArgs false
set_option maxRecDepth 100000
set_option maxHeartbeats 16000000
namespace Go.Proofs.YtecglpocmhkkiaaGreatDoor
namespace B10
open Nw N8 Q6 F9
theorem fine_txt9 (t : L8) : Fine (txt t) := (got_txt (m := (wtx t).length) (by omega)).1
theorem scl_fine {row : Bool} {l : L8} {d : Nd} (h : sclS row l = some d) : Fine d ∧ cntT d = 1 := by
 unfold sclS at h
 split at h
 ·injection h with h; subst h; exact ⟨(got_nul 0).1, rfl⟩
 ·split at h
  ·cases hs : scnP l with
   | none => rw [hs] at h; cases h
   | some p =>
    rw [hs] at h
    injection h with h; subst h
    exact ⟨fine_txt9 _, by unfold txt; rw [cntT, cntL]⟩
  ·by_cases hb : (if row then rowB l else plainB l) = true
   ·rw [if_pos hb] at h; injection h with h; subst h; exact ⟨fine_txt9 _, by unfold txt; rw [cntT, cntL]⟩
   ·rw [if_neg hb] at h; cases h
theorem val_fine {l : L8} {no : Nat} {d : Nd} {k : Nat} (h : valL l no = .ok d k) : Fine d ∧ cntT d ≤ l.length + 1 := by
 unfold valL at h
 split at h
 ·split at h
  ·rename_i hE
   injection h with h1 h2
   subst h1
   cases hP : parP l with
   | none => rw [hP] at hE; exact absurd hE (by decide)
   | some e =>
    rw [hP] at hE
    cases hok : okT 2000 e with
    | true =>
     rw [← (par_yes hok).2]
     have := par_got hP
     exact ⟨this.1, this.2.1⟩
    | false =>
     rw [← (par_no hok).1] at hE
     exact absurd hE (by decide)
  ·cases h
 ·split at h
  ·cases h
  ·rename_i hs
   injection h with h1 h2
   subst h1
   have := scl_fine hs
   exact ⟨this.1, by omega⟩
theorem mrk_lt {l : L8} {k : Nat} (h : mrk l k = true) : k < l.length := by
 unfold mrk at h
 rw [Bool.and_eq_true] at h
 rcases Nat.lt_or_ge k l.length with g | g
 ·exact g
 ·have h1 := of_decide_eq_true h.1
  rw [List.getD_eq_getElem?_getD, List.getElem?_eq_none g] at h1
  exact absurd h1 (by decide)
theorem bhd_len {l : L8} {k : Nat} (h : k < l.length) : (bhd l k).length + 1 ≤ l.length := by
 unfold bhd
 rw [List.length_drop]
 omega
theorem fst_mrk : ∀ (n : Nat) (l : L8) (k j : Nat), l.length - k ≤ n → fstM l k = some j → mrk l j = true
 | 0, l, k, j, hn, h => by
  rw [fstM, dif_neg (by omega)] at h; cases h
 | n + 1, l, k, j, hn, h => by
  rw [fstM] at h
  split at h
  ·split at h
   ·injection h with h; subst h; assumption
   ·exact fst_mrk n l (k + 1) j (by omega) h
  ·cases h
theorem ent_len {l y r : L8} (h : entP l = some (some (y, r))) : r.length + 1 ≤ l.length := by
 unfold entP at h
 split at h
 ·injection h with h; cases h
 ·split at h
  ·split at h
   ·injection h with h; cases h
   ·split at h
    ·rename_i hm
     injection h with h; injection h with h; injection h with h1 h2
     subst h2
     exact bhd_len (mrk_lt hm)
    ·injection h with h; cases h
  ·split at h
   ·injection h with h; cases h
   ·rename_i k hk
    split at h
    ·injection h with h; injection h with h; injection h with h1 h2
     subst h2
     exact bhd_len (mrk_lt (fst_mrk _ l 0 k (Nat.le_refl _) hk))
    ·cases h
theorem hyp_len {l : L8} (h : hyp l = true) : 1 ≤ l.length := by
 cases l with
 | nil => exact absurd h (by decide)
 | cons c l => simp
def KidOk (x : Ln) (l : List Ln) (d : Nd) (k : Nat) : Prop := 1 ≤ k ∧ k ≤ l.length + 1 ∧ Fine d ∧ cntT d + 1 + big (l.drop (k - 1)) ≤ big (x :: l)
def SeqOk (ad : List Nd) (l : List Ln) (d : Nd) (k : Nat) (ds : List Nd) : Prop := d = .mk 2 [] [] (ad ++ ds) ∧ (∀ e ∈ ds, Fine e) ∧ cntL ds + ds.length + big (l.drop k) ≤ big l
def MapOk (ak : List L8) (ad : List Nd) (l : List Ln) (d : Nd) (k : Nat) (ks : List L8) (ds : List Nd) : Prop := d = .mk 3 [] (ak ++ ks) (ad ++ ds) ∧ ks.length = ds.length ∧ (Once ak → Once (ak ++ ks)) ∧ (∀ e ∈ ds, Fine e) ∧ cntL ds + ds.length + big (l.drop k) ≤ big l
theorem kid_more {z : Ln} {l : List Ln} {x : Ln} {d : Nd} {k : Nat} (ih : ∀ d m, blkB (z :: l) = .ok d m → Fine d ∧ cntT d + big ((z :: l).drop m) ≤ big (z :: l)) (h : (blkB (z :: l)).more 1 = .ok d k) : KidOk x (z :: l) d k := by
 obtain ⟨m, hm1, hm2⟩ := more_ok h
 have h1 := ih d m hm1
 have h2 := blk_took hm1
 subst hm2
 refine ⟨by omega, by simp; omega, h1.1, ?_⟩
 rw [Nat.add_sub_cancel_left]
 have : big (x :: z :: l) = 1 + x.text.length + big (z :: l) := rfl
 omega
theorem kid_nul {x : Ln} {l : List Ln} (h : 1 ≤ x.text.length) : KidOk x l nul 1 := by
 refine ⟨Nat.le_refl _, by omega, (got_nul 0).1, ?_⟩
 have : big (x :: l) = 1 + x.text.length + big l := rfl
 have e : cntT nul = 1 := rfl
 rw [e]
 show 1 + 1 + big l ≤ _
 omega
theorem blk_count : ∀ (N : Nat),
  (∀ x l, 2 * big (x :: l) + 1 ≤ N → ∀ d k, blkB (x :: l) = .ok d k → Fine d ∧ cntT d + big ((x :: l).drop k) ≤ big (x :: l)) ∧
  (∀ n ad l, 2 * big l ≤ N → ∀ d k, seqB n ad l = .ok d k → ∃ ds, SeqOk ad l d k ds ∧ (∀ x t, l = x :: t → x.ind = n → hyp x.text = true → 1 ≤ ds.length)) ∧
  (∀ n ak ad l, 2 * big l ≤ N → ∀ d k, mapB n ak ad l = .ok d k → ∃ ks ds, MapOk ak ad l d k ks ds ∧ (∀ x t p, l = x :: t → x.ind = n → entP x.text = some (some p) → p.1 ∉ ak → 1 ≤ ds.length)) := by
 intro N
 have seq0 : ∀ (ad : List Nd) (l : List Ln), SeqOk ad l (.mk 2 [] [] ad) 0 [] := fun ad l => ⟨by rw [List.append_nil], fun e he => (List.not_mem_nil he).elim, by rw [cntL]; show 0 + 0 + big l ≤ _; omega⟩
 have map0 : ∀ (ak : List L8) (ad : List Nd) (l : List Ln), MapOk ak ad l (.mk 3 [] ak ad) 0 [] [] := fun ak ad l => ⟨by rw [List.append_nil, List.append_nil], rfl, fun h => by rw [List.append_nil]; exact h, fun e he => (List.not_mem_nil he).elim, by rw [cntL]; show 0 + 0 + big l ≤ _; omega⟩
 induction N with
 | zero =>
  refine ⟨fun x l h => absurd h (by omega), fun n ad l h d k hk => ?_, fun n ak ad l h d k hk => ?_⟩
  ·cases l with
   | nil =>
    rw [seq_nil] at hk
    injection hk with h1 h2
    subst h1; subst h2
    exact ⟨[], seq0 ad [], fun x t e => by cases e⟩
   | cons x l => simp only [big] at h; omega
  ·cases l with
   | nil =>
    rw [map_nil] at hk
    injection hk with h1 h2
    subst h1; subst h2
    exact ⟨[], [], map0 ak ad [], fun x t p e => by cases e⟩
   | cons x l => simp only [big] at h; omega
 | succ N ih =>
  obtain ⟨ih1, ih2, ih3⟩ := ih
  refine ⟨fun x l h d k hk => ?_, fun n ad l h d k hk => ?_, fun n ak ad l h d k hk => ?_⟩
  ·cases hh : hyp x.text with
   | true =>
    rw [blk_seq hh] at hk
    obtain ⟨ds, ⟨rfl, h2, h3⟩, h4⟩ := ih2 x.ind [] (x :: l) (by omega) d k hk
    have h4 := h4 x l rfl rfl hh
    rw [List.nil_append]
    exact ⟨.mk (by decide) (by decide) (by simp [formB]) (fun h => by cases h) h2, by rw [cntT]; omega⟩
   | false =>
    cases he : entP x.text with
    | none => rw [blk_bad hh he] at hk; cases hk
    | some o =>
     cases o with
     | none =>
      rw [blk_val hh he] at hk
      have h1 := val_one hk
      subst h1
      have h2 := val_fine hk
      refine ⟨h2.1, ?_⟩
      show cntT d + big l ≤ 1 + x.text.length + big l
      omega
     | some p =>
      rw [blk_map hh he] at hk
      obtain ⟨ks, ds, ⟨rfl, h0, ho, h2, h3⟩, h4⟩ := ih3 x.ind [] [] (x :: l) (by omega) d k hk
      have h4 := h4 x l p rfl rfl he List.not_mem_nil
      have ho := ho once_nil
      rw [List.nil_append] at ho ⊢
      rw [List.nil_append]
      exact ⟨.mk (by decide) (by decide) (by simp [formB]) (fun _ => ⟨h0, sort_once ho⟩) h2, by rw [cntT]; omega⟩
  ·cases l with
   | nil =>
    rw [seq_nil] at hk
    injection hk with h1 h2
    subst h1; subst h2
    exact ⟨[], seq0 ad [], fun x t e => by cases e⟩
   | cons x l =>
    have hbig : big (x :: l) = 1 + x.text.length + big l := rfl
    rcases Nat.lt_trichotomy x.ind n with hlt | heq | hgt
    ·rw [seq_low hlt] at hk
     injection hk with h1 h2
     subst h1; subst h2
     exact ⟨[], seq0 ad _, fun y t e he => by injection e with e1 e2; subst e1; omega⟩
    ·cases hh : hyp x.text with
     | false =>
      rw [seq_other heq hh] at hk
      injection hk with h1 h2
      subst h1; subst h2
      exact ⟨[], seq0 ad _, fun y t e _ he => by injection e with e1 e2; subst e1; rw [hh] at he; cases he⟩
     | true =>
      rw [seq_kid heq hh] at hk
      have hkid : ∀ d2 k2, kidS n x l = .ok d2 k2 → KidOk x l d2 k2 := fun d2 k2 h2 => by
       unfold kidS at h2
       split at h2
       ·rename_i h1
        have hc := cut1_lt h1
        have h3 := ih1 (cut1 x) l (by simp only [big]; omega) d2 k2 h2
        have h4 := blk_took h2
        obtain ⟨j, rfl⟩ : ∃ j, k2 = j + 1 := ⟨k2 - 1, by omega⟩
        have h5 : cntT d2 + big (l.drop j) ≤ 1 + (cut1 x).text.length + big l := h3.2
        refine ⟨h4.1, h4.2, h3.1, ?_⟩
        rw [Nat.add_sub_cancel]
        omega
       ·split at h2
        ·cases l with
         | nil => rename_i hdp; cases hdp
         | cons z l => exact kid_more (fun d m => ih1 z l (by simp only [big] at h ⊢; omega) d m) h2
        ·injection h2 with h3 h4
         subst h3; subst h4
         exact kid_nul (hyp_len hh)
      cases hkr : kidS n x l with
      | bad no e => rw [hkr] at hk; cases hk
      | ok d2 k2 =>
       rw [hkr] at hk
       obtain ⟨m, hm1, hm2⟩ := more_ok hk
       obtain ⟨g1, g2, g3, g4⟩ := hkid d2 k2 hkr
       have hb := big_drop (k2 - 1) l
       obtain ⟨ds, ⟨e1, e2, e3⟩, -⟩ := ih2 n (ad ++ [d2]) (l.drop (k2 - 1)) (by omega) d m hm1
       refine ⟨d2 :: ds, ⟨by rw [e1, List.append_assoc]; rfl, fun e he => ?_, ?_⟩, fun _ _ _ _ _ => by simp⟩
       ·rcases List.mem_cons.1 he with rfl | he
        ·exact g3
        ·exact e2 e he
       ·subst hm2
        rw [cntL, List.length_cons, show k2 - 1 + 1 + m = (k2 - 1 + m) + 1 by omega, List.drop_succ_cons]
        rw [List.drop_drop] at e3
        omega
    ·rw [seq_high hgt] at hk; cases hk
  ·cases l with
   | nil =>
    rw [map_nil] at hk
    injection hk with h1 h2
    subst h1; subst h2
    exact ⟨[], [], map0 ak ad [], fun x t p e => by cases e⟩
   | cons x l =>
    have hbig : big (x :: l) = 1 + x.text.length + big l := rfl
    rcases Nat.lt_trichotomy x.ind n with hlt | heq | hgt
    ·rw [map_low hlt] at hk
     injection hk with h1 h2
     subst h1; subst h2
     exact ⟨[], [], map0 ak ad _, fun y t p e he => by injection e with e1 e2; subst e1; omega⟩
    ·cases he : entP x.text with
     | none => rw [map_bad heq he] at hk; cases hk
     | some o =>
      cases o with
      | none =>
       rw [map_other heq he] at hk
       injection hk with h1 h2
       subst h1; subst h2
       exact ⟨[], [], map0 ak ad _, fun y t p e _ h9 => by injection e with e1 e2; subst e1; rw [he] at h9; cases h9⟩
      | some p =>
       obtain ⟨y, r⟩ := p
       by_cases hy : y ∈ ak
       ·rw [map_twice heq he hy] at hk; cases hk
       ·rw [map_kid heq he hy] at hk
        have hel := ent_len he
        have hkid : ∀ d2 k2, kidM n x l r = .ok d2 k2 → KidOk x l d2 k2 := fun d2 k2 h2 => by
         unfold kidM at h2
         split at h2
         ·have h3 := val_one h2
          have h4 := val_fine h2
          subst h3
          refine ⟨Nat.le_refl _, by omega, h4.1, ?_⟩
          show cntT d2 + 1 + big l ≤ _
          omega
         ·split at h2
          ·cases l with
           | nil => rename_i hdp; cases hdp
           | cons z l => exact kid_more (fun d m => ih1 z l (by simp only [big] at h ⊢; omega) d m) h2
          ·injection h2 with h3 h4
           subst h3; subst h4
           exact kid_nul (by omega)
        cases hkr : kidM n x l r with
        | bad no e => rw [hkr] at hk; cases hk
        | ok d2 k2 =>
         rw [hkr] at hk
         obtain ⟨m, hm1, hm2⟩ := more_ok hk
         obtain ⟨g1, g2, g3, g4⟩ := hkid d2 k2 hkr
         have hb := big_drop (k2 - 1) l
         obtain ⟨ks, ds, ⟨e1, e0, eo, e2, e3⟩, -⟩ := ih3 n (ak ++ [y]) (ad ++ [d2]) (l.drop (k2 - 1)) (by omega) d m hm1
         refine ⟨y :: ks, d2 :: ds, ⟨by rw [e1, List.append_assoc, List.append_assoc]; rfl, by rw [List.length_cons, List.length_cons, e0], fun h => ?_, fun e he => ?_, ?_⟩, fun _ _ _ _ _ _ _ => by simp⟩
         ·have := eo (once_snoc h hy)
          rw [List.append_assoc] at this
          exact this
         ·rcases List.mem_cons.1 he with rfl | he
          ·exact g3
          ·exact e2 e he
         ·subst hm2
          rw [cntL, List.length_cons, show k2 - 1 + 1 + m = (k2 - 1 + m) + 1 by omega, List.drop_succ_cons]
          rw [List.drop_drop] at e3
          omega
    ·rw [map_high hgt] at hk; cases hk
theorem blk_fine {x : Ln} {l : List Ln} {d : Nd} {k : Nat} (h : blkB (x :: l) = .ok d k) : Fine d ∧ cntT d ≤ big (x :: l) := by
 have := (blk_count _).1 x l (Nat.le_refl _) d k h
 exact ⟨this.1, by omega⟩
end B10
end Go.Proofs.YtecglpocmhkkiaaGreatDoor
